import Derived.Test.YtkpkhnaflohjpaaDoorP27Z2
/- Token: the law TokenQuotes. -/

namespace Go.Proofs.YtkpkhnaflohjpaaDoor

open Go Go.RowKit Go.Shelf
set_option maxRecDepth 100000

theorem drop_all_nil (q : ByteArray) : q.data.toList.drop q.size = [] := List.drop_eq_nil_of_le (by rw [toList_len]; exact Nat.le_refl _)

/-- A text that begins with a token and has nothing behind it. -/
theorem toks_two {q : ByteArray} {t : Tk} (h0 : gapP q.data.toList 0 = 0) (h1 : readT q 0 = .inl t) (h2 : t.kind ≠ 7) (h3 : t.behind = q.size) : toks q 0 = ([t, ⟨7, ⟨#[]⟩, q.size⟩], none) := by
  have he : gapP q.data.toList q.size = q.size := by
    have := gapP_end (L := q.data.toList)
    rw [toList_len] at this
    exact this
  have hr : readT q q.size = .inl ⟨7, ⟨#[]⟩, q.size⟩ := by
    unfold readT
    rw [drop_all_nil]
    simp [firstT]
    rfl
  rw [toks_eq (Nat.zero_le _), h0, h1]
  simp only [if_neg h2]
  rw [h3, toks_eq (Nat.le_refl _), he, hr]
  simp

theorem runN_all (p : Int → Bool) : ∀ l : List UInt8, (∀ c ∈ l, p (c.toNat : Int) = true) → runN p l = l.length
  | [], _ => rfl
  | c :: l, h => by
    unfold runN
    rw [if_pos (h c (by simp)), runN_all p l (fun d hd => h d (by simp [hd])), List.length_cons]

theorem runN_upto (p : Int → Bool) (d : UInt8) (r : List UInt8) (hd : p (d.toNat : Int) = false) : ∀ l : List UInt8, (∀ c ∈ l, p (c.toNat : Int) = true) → runN p (l ++ d :: r) = l.length
  | [], _ => by simp [runN, hd]
  | c :: l, h => by
    rw [List.cons_append]
    unfold runN
    rw [if_pos (h c (by simp)), runN_upto p d r hd l (fun e he => h e (by simp [he])), List.length_cons]

theorem named_all {s : ByteArray} (h : namedB s = true) : ∀ c ∈ s.data.toList, nameC (c.toNat : Int) = true := by
  unfold namedB nameAll at h
  simp only [Bool.and_eq_true, List.all_eq_true] at h
  exact h.2

theorem whole_ext (s : ByteArray) : s.extract 0 s.size = s := (run_all (Nat.le_refl _)).2 rfl

/-- How a name that is written is cut. -/
theorem cut_quote {s : ByteArray} (h : namedB s = true) : ∃ (q : ByteArray) (k n : Nat), quoteB s = (q, true) ∧ (k = 1 ∨ k = 4) ∧ cutR q = ([⟨k, s, 0⟩, ⟨7, ⟨#[]⟩, n⟩], 0, 0) ∧ q.size ≤ 42 := by
  obtain ⟨h0, h40⟩ := named_size h
  have hall := named_all h
  cases hsm : smallC (s[0].toNat : Int) with
  | true =>
    refine ⟨s, 1, s.size, quoteB_small h h0 hsm, .inl rfl, ?_, by omega⟩
    have hc := list_cons h0
    have h3 := of_decide_eq_true hsm
    have hb : blankC (s[0].toNat : Int) = false := decide_eq_false (by omega)
    have n37 : s[0] ≠ 37 := fun e => by rw [e] at h3; revert h3; decide
    have n47 : s[0] ≠ 47 := fun e => by rw [e] at h3; revert h3; decide
    have hg : gapP s.data.toList 0 = 0 := gapP_stop (by
      rw [List.drop_zero, hc, skipN_cons, hb, if_neg (by simp), if_neg n37, if_neg (fun e => n47 e.1)])
    have hr : readT s 0 = .inl ⟨1, s, 0⟩ := by
      have hf : firstT s.data.toList = (1, 0, s.size) := by
        have hn := runN_all nameC _ hall
        rw [toList_len] at hn
        rw [hc] at hn ⊢
        simp only [firstT, hsm, if_true, hn]
      unfold readT
      rw [List.drop_zero, hf]
      simp
      omega
    unfold cutR
    rw [if_neg (by omega), toks_two hg hr (by simp) (by simp [Tk.behind])]
  | false =>
    obtain ⟨q, hq⟩ : ∃ q, (⟨#[39]⟩ : ByteArray) ++ s ++ (⟨#[39]⟩ : ByteArray) = q := ⟨_, rfl⟩
    have hl : q.data.toList = 39 :: (s.data.toList ++ [39]) := by rw [← hq]; simp
    have hz : q.size = s.size + 2 := by rw [← toList_len, hl]; simp
    refine ⟨q, 4, q.size, by rw [quoteB_great h h0 hsm, hq], .inr rfl, ?_, by omega⟩
    have hg : gapP q.data.toList 0 = 0 := gapP_stop (by
      rw [List.drop_zero, hl, skipN_cons]
      simp [blankC])
    have hr : readT q 0 = .inl ⟨4, s, 0⟩ := by
      have hqu : ∀ c ∈ s.data.toList, quotC (c.toNat : Int) = true := fun c hc => by
        have := of_decide_eq_true (hall c hc)
        exact decide_eq_true (by omega)
      have hn : runN quotC (s.data.toList ++ [39]) = s.size := by
        rw [runN_upto quotC 39 [] (by decide) _ hqu, toList_len]
      have hd : (s.data.toList ++ [39]).drop s.size = [39] := by
        have := List.drop_left (l₁ := s.data.toList) (l₂ := [39])
        rwa [toList_len] at this
      have hf : firstT q.data.toList = (4, 1, 1 + s.size) := by
        rw [hl]
        simp only [firstT, hn, hd]
        rw [if_neg (by decide), if_neg (by decide), if_neg (by decide), if_neg (by decide), if_pos trivial, if_neg (by omega)]
        simp
      have hx : q.extract 1 (1 + s.size) = s := by
        apply ByteArray.ext
        apply Array.toList_inj.1
        rw [toList_ext, hl]
        simp only [List.drop_succ_cons, List.drop_zero]
        rw [show 1 + s.size - 1 = s.data.toList.length by rw [toList_len]; omega, List.take_left]
      unfold readT
      rw [List.drop_zero, hf]
      simp only [Nat.zero_add, hx]
      rw [if_neg (by decide), if_neg (by omega)]
    unfold cutR
    rw [if_neg (by omega), toks_two hg hr (by simp) (by simp [Tk.behind, hz])]

set_option maxHeartbeats 2000000 in
theorem TokenQuotes_any (s : ByteArray) (w : World) (hg : sgn w) (hs : s.size ≤ maxLen) : Calls Tryd.prog 7 #[.string s] w fun e w' => e = .returned (.bool true) ∧ Below w.heap.size w w' := by
  have C1 := Lib.hid (fun w => tokQuote_any s w hs)
  have C3 := Lib.hid (fun w => tokName_any s w hs)
  have Hg := Lib.hid hg
  clear hg
  cases hn : namedB s with
  | false =>
    rw [hn] at C3
    rw [quoteB_no hn] at C1
    clear hn
    go_enter Tryd.func7, Tryd.ntmps7
    go_wp2_with (first
      | (go_at_call 14; (with_reducible refine (C1.out _).mono ?_); go_must (rintro e w1 ⟨rfl, hb1⟩; have hg1 := Lib.hid (sgn_below Hg.out hb1)))
      | (go_at_call 16; (with_reducible refine (C3.out _).mono ?_); go_must (rintro e w3 ⟨rfl, rfl⟩))
      | (go_at_call 11; (with_reducible refine (tokWakes_any _ hg1.out).mono ?_); go_must (rintro e w5 ⟨rfl, hb5⟩))
      | fail)
    go_ret
    exact ⟨rfl, hb1.trans (hb5.mono hb1.size)⟩
  | true =>
    obtain ⟨q, k, n, hq, hk, hcut, hqs⟩ := cut_quote hn
    rw [hn] at C3
    rw [hq] at C1
    have C2 : Hid (∀ w : World, sgn w → Calls Tryd.prog 8 #[.string q] w fun e w' => ∃ g c, e = .returned (.tuple #[.slice (some ⟨g, 0, none⟩) 2 c, .int .i64 0, .int .i64 0]) ∧ w'.cell? ⟨g, 0, none⟩ = some (.int .i64 (k : Int)) ∧ w'.cell? ⟨g, 1, none⟩ = some (.string s) ∧ Below w.heap.size w w') := Lib.hid fun w hg => (tokCut_any q w hg (by unfold maxLen; omega)).mono fun e w' h => by
      obtain ⟨A, c, he, hT, hb⟩ := cutPost_read h
      rw [hcut] at he hT
      obtain ⟨g, rfl, hgl, c0, c1, c2⟩ := hT 0 _ rfl
      exact ⟨g, c, he, c0, c1, hb⟩
    have hss : (s.toList == s.toList) = true := by simp
    clear hn hq hcut hqs
    rcases hk with rfl | rfl
    · go_enter Tryd.func7, Tryd.ntmps7
      go_wp2_with (first
        | (go_at_call 14; (with_reducible refine (C1.out _).mono ?_); go_must (rintro e w1 ⟨rfl, hb1⟩; have hg1 := Lib.hid (sgn_below Hg.out hb1)))
        | (go_at_call 8; (with_reducible refine (C2.out _ hg1.out).mono ?_); go_must (rintro e w2 ⟨g, c, rfl, a0, a1, hb2⟩; have hg2 := Lib.hid (sgn_below hg1.out hb2); have hB2 := hb1.trans (hb2.mono hb1.size)))
        | (go_at_call 16; (with_reducible refine (C3.out _).mono ?_); go_must (rintro e w3 ⟨rfl, rfl⟩))
        | (go_at_call 11; (with_reducible refine (tokWakes_any _ hg2.out).mono ?_); go_must (rintro e w5 ⟨rfl, hb5⟩))
        | fail)
      go_ret
      exact ⟨rfl, hB2.trans (hb5.mono hB2.size)⟩
    · go_enter Tryd.func7, Tryd.ntmps7
      go_wp2_with (first
        | (go_at_call 14; (with_reducible refine (C1.out _).mono ?_); go_must (rintro e w1 ⟨rfl, hb1⟩; have hg1 := Lib.hid (sgn_below Hg.out hb1)))
        | (go_at_call 8; (with_reducible refine (C2.out _ hg1.out).mono ?_); go_must (rintro e w2 ⟨g, c, rfl, a0, a1, hb2⟩; have hg2 := Lib.hid (sgn_below hg1.out hb2); have hB2 := hb1.trans (hb2.mono hb1.size)))
        | (go_at_call 16; (with_reducible refine (C3.out _).mono ?_); go_must (rintro e w3 ⟨rfl, rfl⟩))
        | (go_at_call 11; (with_reducible refine (tokWakes_any _ hg2.out).mono ?_); go_must (rintro e w5 ⟨rfl, hb5⟩))
        | fail)
      go_ret
      exact ⟨rfl, hB2.trans (hb5.mono hB2.size)⟩

end Go.Proofs.YtkpkhnaflohjpaaDoor

