import Derived.Test.YtkpkhnaflohjpaaDoorP29Z1
import Derived.Test.YtkpkhnaflohjpaaDoorP27Z2
import Derived.ChangeSlices
import Derived.Deep.Slices
import Derived.Carry
/- Token: tokens that are written one behind the other, with gaps between, are cut into the same tokens: in plain words. -/

namespace Go.Proofs.YtkpkhnaflohjpaaDoor

open Go.RowKit

/-- What stands between. -/
def btwL : List (List UInt8) := [[32], [10], [32, 37, 32, 97, 32, 39, 32, 34, 10], [47, 42, 32, 39, 32, 42, 47], [9, 13, 32]]

/-- What may follow a token: nothing, or what begins a gap. -/
def stopH (R : List UInt8) : Prop := R = [] ∨ ∃ d R', R = d :: R' ∧ (d = 32 ∨ d = 10 ∨ d = 47 ∨ d = 9)

theorem runN_cut (p : Int → Bool) (R : List UInt8) (hR : runN p R = 0) : ∀ Y, runN p (Y.take (runN p Y) ++ R) = runN p Y
  | [] => by simpa [runN] using hR
  | c :: l => by
    have ih := runN_cut p R hR l
    by_cases h : p (c.toNat : Int) = true
    · have h1 : runN p (c :: l) = runN p l + 1 := by rw [runN, if_pos h]
      rw [h1, List.take_succ_cons, List.cons_append, runN, if_pos h, ih]
    · have h1 : runN p (c :: l) = 0 := by rw [runN, if_neg h]
      rw [h1, List.take_zero, List.nil_append, hR]

theorem stop_name {R : List UInt8} (h : stopH R) : runN nameC R = 0 := by
  rcases h with rfl | ⟨d, R', rfl, rfl | rfl | rfl | rfl⟩ <;> rfl

theorem stop_digit {R : List UInt8} (h : stopH R) : runN digitC R = 0 := by
  rcases h with rfl | ⟨d, R', rfl, rfl | rfl | rfl | rfl⟩ <;> rfl

theorem signN_ext {p : List UInt8} (hp : p ∈ signsL) {R : List UInt8} (h : stopH R) : signN (p ++ R) = p.length := by
  simp only [signsL, List.mem_cons, List.not_mem_nil, or_false] at hp
  rcases h with rfl | ⟨d, R', rfl, rfl | rfl | rfl | rfl⟩ <;>
    rcases hp with rfl | rfl | rfl | rfl | rfl | rfl | rfl | rfl | rfl | rfl | rfl | rfl | rfl | rfl | rfl | rfl | rfl | rfl | rfl | rfl <;> rfl

theorem signN_take {Y : List UInt8} (h : signN Y ≠ 0) : ∃ p ∈ signsL, Y.take (signN Y) = p ∧ signN Y = p.length := by
  unfold signN at h ⊢
  cases hf : signsL.find? fun p => p.isPrefixOf Y with
  | none => rw [hf] at h; simp at h
  | some p =>
    have h1 := List.find?_some hf
    simp only [List.isPrefixOf_iff_prefix] at h1
    exact ⟨p, List.mem_of_find?_eq_some hf, (List.prefix_iff_eq_take.1 h1).symm, rfl⟩

/-- Where a token begins, there is no gap. -/
theorem skipN_tok {Z : List UInt8} (h : (firstT Z).1 ≠ 0) : skipN Z = 0 := by
  cases Z with
  | nil => rfl
  | cons c l =>
    rw [skipN_cons]
    have hb : ¬ blankC (c.toNat : Int) = true := fun e => by
      have := of_decide_eq_true e
      have hc : c = 32 ∨ c = 9 ∨ c = 10 ∨ c = 13 := by
        rcases this with e | e | e | e
        · left; exact UInt8.toNat_inj.1 (by simpa using Int.ofNat.inj e)
        · right; left; exact UInt8.toNat_inj.1 (by simpa using Int.ofNat.inj e)
        · right; right; left; exact UInt8.toNat_inj.1 (by simpa using Int.ofNat.inj e)
        · right; right; right; exact UInt8.toNat_inj.1 (by simpa using Int.ofNat.inj e)
      rcases hc with rfl | rfl | rfl | rfl <;> exact h rfl
    have h37 : ¬ c = 37 := fun e => by subst e; exact h rfl
    have h47 : ¬ c = 47 := fun e => by subst e; exact h rfl
    rw [if_neg hb, if_neg h37, if_neg (fun e => h47 e.1)]

/-- A token as it is written: the quotes with it. -/
def wrL (k : Nat) (T : List UInt8) : List UInt8 := if k = 4 then 39 :: (T ++ [39]) else T

/-- The text of what begins Y. -/
def txtL (Y : List UInt8) : List UInt8 := (Y.drop (firstT Y).2.1).take ((firstT Y).2.2 - (firstT Y).2.1)

/-- What begins a text is what begins it again, when it is written and a gap, or nothing, follows. -/
theorem firstT_again {Y R : List UInt8} (h0 : (firstT Y).1 ≠ 0) (h7 : (firstT Y).1 ≠ 7) (hR : stopH R) : firstT (wrL (firstT Y).1 (txtL Y) ++ R) = firstT Y := by
  cases Y with
  | nil => exact absurd rfl h7
  | cons c l =>
    by_cases h1 : smallC (c.toNat : Int) = true
    · have hf : firstT (c :: l) = (1, 0, runN nameC (c :: l)) := by simp only [firstT, if_pos h1]
      have hn : nameC (c.toNat : Int) = true := by
        have := of_decide_eq_true h1
        exact decide_eq_true (by omega)
      have hr : runN nameC (c :: l) = runN nameC l + 1 := by rw [runN, if_pos hn]
      unfold txtL wrL
      rw [hf]
      simp only [List.drop_zero, Nat.sub_zero]
      rw [if_neg (by decide)]
      have hcut := runN_cut nameC R (stop_name hR) (c :: l)
      rw [hr, List.take_succ_cons, List.cons_append] at hcut ⊢
      simp only [firstT, if_pos h1, hcut]
    · by_cases h2 : greatC (c.toNat : Int) = true
      · have hf : firstT (c :: l) = (2, 0, runN nameC (c :: l)) := by simp only [firstT, if_neg h1, if_pos h2]
        have hn : nameC (c.toNat : Int) = true := by
          have := of_decide_eq_true h2
          exact decide_eq_true (by omega)
        have hr : runN nameC (c :: l) = runN nameC l + 1 := by rw [runN, if_pos hn]
        unfold txtL wrL
        rw [hf]
        simp only [List.drop_zero, Nat.sub_zero]
        rw [if_neg (by decide)]
        have hcut := runN_cut nameC R (stop_name hR) (c :: l)
        rw [hr, List.take_succ_cons, List.cons_append] at hcut ⊢
        simp only [firstT, if_neg h1, if_pos h2, hcut]
      · by_cases h3 : digitC (c.toNat : Int) = true
        · have hf : firstT (c :: l) = (5, 0, runN digitC (c :: l)) := by simp only [firstT, if_neg h1, if_neg h2, if_pos h3]
          have hr : runN digitC (c :: l) = runN digitC l + 1 := by rw [runN, if_pos h3]
          unfold txtL wrL
          rw [hf]
          simp only [List.drop_zero, Nat.sub_zero]
          rw [if_neg (by decide)]
          have hcut := runN_cut digitC R (stop_digit hR) (c :: l)
          rw [hr, List.take_succ_cons, List.cons_append] at hcut ⊢
          simp only [firstT, if_neg h1, if_neg h2, if_pos h3, hcut]
        · by_cases h4 : c = 36
          · subst h4
            cases l with
            | nil => exact absurd rfl h0
            | cons d l' =>
              by_cases hd : smallC (d.toNat : Int) = true
              · have hf : firstT (36 :: d :: l') = (3, 0, 1 + runN nameC (d :: l')) := by simp only [firstT, if_neg h1, if_neg h2, if_neg h3, if_true, hd]
                have hn : nameC (d.toNat : Int) = true := by
                  have := of_decide_eq_true hd
                  exact decide_eq_true (by omega)
                have hr : runN nameC (d :: l') = runN nameC l' + 1 := by rw [runN, if_pos hn]
                unfold txtL wrL
                rw [hf]
                simp only [List.drop_zero, Nat.sub_zero]
                rw [if_neg (by decide)]
                have hcut := runN_cut nameC R (stop_name hR) (d :: l')
                rw [hr, List.take_succ_cons, List.cons_append] at hcut
                rw [hr, show 1 + (runN nameC l' + 1) = runN nameC l' + 1 + 1 by omega, List.take_succ_cons, List.take_succ_cons, List.cons_append, List.cons_append]
                simp only [firstT, if_neg h1, if_neg h2, if_neg h3, if_true, hd, hcut]
                rw [show 1 + (runN nameC l' + 1) = runN nameC l' + 1 + 1 by omega]
              · exact absurd (by simp only [firstT, if_neg h1, if_neg h2, if_neg h3, if_true, hd]; rfl) h0
          · by_cases h5 : c = 39
            · subst h5
              by_cases hq : runN quotC l = 0
              · exact absurd (by simp only [firstT, if_neg h1, if_neg h2, if_neg h3, if_neg h4, if_true, if_pos hq]) h0
              · by_cases he : (l.drop (runN quotC l)).head? = some 39
                · have hf : firstT (39 :: l) = (4, 1, 1 + runN quotC l) := by simp only [firstT, if_neg h1, if_neg h2, if_neg h3, if_neg h4, if_true, if_neg hq, if_pos he]
                  unfold txtL wrL
                  rw [hf]
                  simp only [List.drop_succ_cons, List.drop_zero, if_true]
                  rw [show 1 + runN quotC l - 1 = runN quotC l by omega]
                  have hcut := runN_cut quotC (39 :: R) rfl l
                  have hle := runN_le quotC l
                  rw [List.cons_append, List.append_assoc, List.singleton_append]
                  have hd : (l.take (runN quotC l) ++ 39 :: R).drop (runN quotC l) = 39 :: R := by
                    rw [List.drop_append_of_le_length (by rw [List.length_take]; omega), List.drop_eq_nil_of_le (by rw [List.length_take]; omega), List.nil_append]
                  simp only [firstT, if_neg h1, if_neg h2, if_neg h3, if_neg h4, if_true, hcut, hd, if_neg hq, List.head?_cons]
                · exact absurd (by simp only [firstT, if_neg h1, if_neg h2, if_neg h3, if_neg h4, if_true, if_neg hq, if_neg he]) h0
            · by_cases h6 : signN (c :: l) = 0
              · exact absurd (by simp only [firstT, if_neg h1, if_neg h2, if_neg h3, if_neg h4, if_neg h5, if_pos h6]) h0
              · have hf : firstT (c :: l) = (6, 0, signN (c :: l)) := by simp only [firstT, if_neg h1, if_neg h2, if_neg h3, if_neg h4, if_neg h5, if_neg h6]
                unfold txtL wrL
                rw [hf]
                simp only [List.drop_zero, Nat.sub_zero]
                rw [if_neg (by decide)]
                obtain ⟨p, hp, hY, hz⟩ := signN_take h6
                have hpos := signs_pos p hp
                have hx := signN_ext hp hR
                rw [hY, hz]
                cases p with
                | nil => simp at hpos
                | cons c' p' =>
                  obtain ⟨m, hm⟩ : ∃ m, signN (c :: l) = m + 1 := ⟨signN (c :: l) - 1, by omega⟩
                  rw [hm, List.take_succ_cons] at hY
                  injection hY with hcc _
                  subst hcc
                  rw [List.cons_append] at hx ⊢
                  simp only [firstT, if_neg h1, if_neg h2, if_neg h3, if_neg h4, if_neg h5, hx]
                  rw [if_neg (by simp)]

theorem txtL_again {Y R : List UInt8} : ((wrL (firstT Y).1 (txtL Y) ++ R).drop (firstT Y).2.1).take ((firstT Y).2.2 - (firstT Y).2.1) = txtL Y ∧ (wrL (firstT Y).1 (txtL Y)).length = (firstT Y).2.2 + (if (firstT Y).1 = 4 then 1 else 0) := by
  obtain ⟨f1, f2, f3, f4, f5, f6, _⟩ := firstT_le Y
  have hl : (txtL Y).length = (firstT Y).2.2 - (firstT Y).2.1 := by
    unfold txtL
    rw [List.length_take, List.length_drop]; omega
  unfold wrL
  by_cases h4 : (firstT Y).1 = 4
  · obtain ⟨g1, g2⟩ := f3 h4
    rw [if_pos h4, if_pos h4]
    rw [← hl, g1]
    simp only [List.cons_append, List.drop_succ_cons, List.drop_zero, List.append_assoc, List.length_cons, List.length_append, List.length_nil]
    exact ⟨List.take_left, by omega⟩
  · have g1 := f4 h4
    rw [if_neg h4, if_neg h4]
    rw [← hl, g1]
    simp only [List.drop_zero]
    exact ⟨List.take_left, by omega⟩

/-- Between two tokens the gap goes on to the second. -/
theorem gap_step (P X : List UInt8) (j n : Nat) (h : skipN (X.drop j) = n) (hn : 0 < n) : gapP (P ++ X) (P.length + j) = gapP (P ++ X) (P.length + (j + n)) := by
  have hd : (P ++ X).drop (P.length + j) = X.drop j := by rw [← List.drop_drop, List.drop_left]
  rw [← Nat.add_assoc]
  exact gapP_skip (by rw [hd]; exact h) hn

theorem gap_stop (P X : List UInt8) (j : Nat) (h : skipN (X.drop j) = 0) : gapP (P ++ X) (P.length + j) = P.length + j := by
  have hd : (P ++ X).drop (P.length + j) = X.drop j := by rw [← List.drop_drop, List.drop_left]
  exact gapP_stop (by rw [hd]; exact h)

theorem gap_btw (P R : List UInt8) {b : List UInt8} (hb : b ∈ btwL) (hR : skipN R = 0) : gapP (P ++ (b ++ R)) P.length = P.length + b.length := by
  simp only [btwL, List.mem_cons, List.not_mem_nil, or_false] at hb
  rw [show gapP (P ++ (b ++ R)) P.length = gapP (P ++ (b ++ R)) (P.length + 0) from rfl]
  rcases hb with rfl | rfl | rfl | rfl | rfl
  · exact (gap_step P ([32] ++ R) 0 1 rfl (by decide)).trans (gap_stop P ([32] ++ R) 1 hR)
  · exact (gap_step P ([10] ++ R) 0 1 rfl (by decide)).trans (gap_stop P ([10] ++ R) 1 hR)
  · exact (gap_step P ([32, 37, 32, 97, 32, 39, 32, 34, 10] ++ R) 0 1 rfl (by decide)).trans ((gap_step P ([32, 37, 32, 97, 32, 39, 32, 34, 10] ++ R) 1 7 rfl (by decide)).trans ((gap_step P ([32, 37, 32, 97, 32, 39, 32, 34, 10] ++ R) 8 1 rfl (by decide)).trans (gap_stop P ([32, 37, 32, 97, 32, 39, 32, 34, 10] ++ R) 9 hR)))
  · exact (gap_step P ([47, 42, 32, 39, 32, 42, 47] ++ R) 0 7 rfl (by decide)).trans (gap_stop P ([47, 42, 32, 39, 32, 42, 47] ++ R) 7 hR)
  · exact (gap_step P ([9, 13, 32] ++ R) 0 1 rfl (by decide)).trans ((gap_step P ([9, 13, 32] ++ R) 1 1 rfl (by decide)).trans ((gap_step P ([9, 13, 32] ++ R) 2 1 rfl (by decide)).trans (gap_stop P ([9, 13, 32] ++ R) 3 hR)))

/-- What is written, from the i-th token on. -/
def outL (ks : Nat → List UInt8) : Nat → List Tk → List UInt8
  | _, [] => []
  | i, t :: l => ks i ++ (wrL t.kind t.txt.data.toList ++ outL ks (i + 1) l)

theorem outL_stop {ks : Nat → List UInt8} (hks : ∀ i, ks i ∈ btwL) (i : Nat) (l : List Tk) : stopH (outL ks i l) := by
  cases l with
  | nil => exact .inl rfl
  | cons t l =>
    have h := hks i
    simp only [btwL, List.mem_cons, List.not_mem_nil, or_false] at h
    right
    unfold outL
    rcases h with h | h | h | h | h <;> rw [h]
    · exact ⟨32, _, rfl, by decide⟩
    · exact ⟨10, _, rfl, by decide⟩
    · exact ⟨32, _, rfl, by decide⟩
    · exact ⟨47, _, rfl, by decide⟩
    · exact ⟨9, _, rfl, by decide⟩

theorem readT_endk (q : ByteArray) : readT q q.size = .inl ⟨7, ⟨#[]⟩, q.size⟩ := by
  unfold readT
  rw [drop_all_nil]
  simp [firstT]
  rfl

def Tk.kt (t : Tk) : Nat × ByteArray := (t.kind, t.txt)

theorem toks_again {s : ByteArray} {ks : Nat → List UInt8} (hks : ∀ i, ks i ∈ btwL) : ∀ (l : List Tk) (k i : Nat) (P : List UInt8) (o : ByteArray), k ≤ s.size → toks s k = (l, none) → o.data.toList = P ++ outL ks i l →
    ∃ l', toks o P.length = (l', none) ∧ l'.map Tk.kt = l.map Tk.kt
  | l, k, i, P, o, hk, hl, ho => by
    have hz : o.size = (P ++ outL ks i l).length := by rw [← toList_len, ho]
    have hg := gapP_le (L := s.data.toList) (k := k) (by rw [toList_len]; exact hk)
    rw [toList_len] at hg
    rw [toks_eq hk] at hl
    cases hr : readT s (gapP s.data.toList k) with
    | inr c => rw [hr] at hl; simp at hl
    | inl t =>
      rw [hr] at hl
      simp only at hl
      obtain ⟨h3, h4, h5, h6, h7, _, _⟩ := readT_behind hg.2 hr
      by_cases hk7 : t.kind = 7
      · rw [if_pos hk7] at hl
        injection hl with hl _
        subst hl
        have ht : t.txt = ⟨#[]⟩ := empty_eq (h7 hk7).2
        have ho' : o.data.toList = P ++ (ks i ++ []) := by
          rw [ho, outL, hk7, ht]; rfl
        have hgp : gapP o.data.toList P.length = o.size := by
          rw [ho', gap_btw P [] (hks i) rfl, hz]
          rw [outL, hk7, ht]
          simp [outL, wrL]
        refine ⟨[⟨7, ⟨#[]⟩, o.size⟩], ?_, ?_⟩
        · rw [toks_eq (by rw [hz, List.length_append]; omega), hgp, readT_endk]
          simp
        · simp only [List.map_cons, List.map_nil, Tk.kt, hk7, ht]
      · rw [if_neg hk7] at hl
        injection hl with hl1 hl2
        obtain ⟨rest, hrest⟩ : ∃ rest, (toks s t.behind).1 = rest := ⟨_, rfl⟩
        have htr : toks s t.behind = (rest, none) := by rw [← hrest, ← hl2]
        rw [hrest] at hl1
        subst hl1
        obtain ⟨p, hp⟩ : ∃ p, gapP s.data.toList k = p := ⟨_, rfl⟩
        rw [hp] at hr hg
        obtain ⟨Y, hY⟩ : ∃ Y, s.data.toList.drop p = Y := ⟨_, rfl⟩
        unfold readT at hr
        simp only [hY] at hr
        split at hr
        · cases hr
        split at hr
        · cases hr
        rename_i h0 h40
        injection hr with hr
        subst hr
        simp only at hk7 h5 htr
        have hT : (s.extract (p + (firstT Y).2.1) (p + (firstT Y).2.2)).data.toList = txtL Y := by
          rw [toList_ext, txtL, ← hY, List.drop_drop]
          congr 1
          omega
        have hR := outL_stop hks (i + 1) rest
        have hf := firstT_again h0 hk7 hR
        obtain ⟨hx1, hx2⟩ := txtL_again (Y := Y) (R := outL ks (i + 1) rest)
        obtain ⟨R, hRe⟩ : ∃ R, outL ks (i + 1) rest = R := ⟨_, rfl⟩
        rw [outL] at ho hz
        simp only [hT] at ho hz
        rw [hRe] at ho hz hf hx1 hR
        obtain ⟨Wd, hW⟩ : ∃ Wd, wrL (firstT Y).1 (txtL Y) = Wd := ⟨_, rfl⟩
        rw [hW] at ho hz hf hx1 hx2
        have hsk : skipN (Wd ++ R) = 0 := skipN_tok (by rw [hf]; exact h0)
        have hgp : gapP o.data.toList P.length = P.length + (ks i).length := by rw [ho]; exact gap_btw P _ (hks i) hsk
        obtain ⟨p', hp'⟩ : ∃ p', P.length + (ks i).length = p' := ⟨_, rfl⟩
        rw [hp'] at hgp
        have hdr : o.data.toList.drop p' = Wd ++ R := by
          rw [ho, ← hp', ← List.append_assoc, show P.length + (ks i).length = (P ++ ks i).length by simp, List.drop_left]
        have hrd : readT o p' = .inl ⟨(firstT Y).1, s.extract (p + (firstT Y).2.1) (p + (firstT Y).2.2), p'⟩ := by
          have hx : o.extract (p' + (firstT Y).2.1) (p' + (firstT Y).2.2) = s.extract (p + (firstT Y).2.1) (p + (firstT Y).2.2) := by
            apply ByteArray.ext
            apply Array.toList_inj.1
            rw [hT, toList_ext, ← List.drop_drop, hdr]
            rw [show p' + (firstT Y).2.2 - (p' + (firstT Y).2.1) = (firstT Y).2.2 - (firstT Y).2.1 by omega]
            exact hx1
          unfold readT
          simp only [hdr, hf]
          rw [if_neg h0, if_neg h40, hx]
        obtain ⟨f1, f2, f3, f4, _, _, _⟩ := firstT_le Y
        have hbh : Tk.behind ⟨(firstT Y).1, s.extract (p + (firstT Y).2.1) (p + (firstT Y).2.2), p'⟩ = p' + Wd.length := by
          have hz2 : (s.extract (p + (firstT Y).2.1) (p + (firstT Y).2.2)).size = (firstT Y).2.2 - (firstT Y).2.1 := by
            rw [← toList_len, hT, txtL, List.length_take, List.length_drop]; omega
          simp only [Tk.behind, hz2, hx2]
          by_cases e4 : (firstT Y).1 = 4
          · obtain ⟨g1, _⟩ := f3 e4
            rw [if_pos e4, if_pos e4]; omega
          · have g1 := f4 e4
            rw [if_neg e4, if_neg e4]; omega
        have hPP : o.data.toList = (P ++ ks i ++ Wd) ++ outL ks (i + 1) rest := by rw [hRe, ho]; simp
        obtain ⟨l', hl', hm⟩ := toks_again hks rest _ (i + 1) (P ++ ks i ++ Wd) o h5 htr hPP
        have hlen : (P ++ ks i ++ Wd).length = p' + Wd.length := by simp [← hp']; omega
        rw [hlen] at hl'
        refine ⟨⟨(firstT Y).1, s.extract (p + (firstT Y).2.1) (p + (firstT Y).2.2), p'⟩ :: l', ?_, ?_⟩
        · rw [toks_eq (by rw [hz, List.length_append]; omega), hgp, hrd]
          simp only [if_neg hk7]
          rw [hbh, hl']
        · rw [List.map_cons, List.map_cons, hm]; rfl
  termination_by l => l.length

end Go.Proofs.YtkpkhnaflohjpaaDoor

/- Token: the law TokenAgain: text; single operations of the region that writes (by RZ's rule). -/

namespace Go.Proofs.YtkpkhnaflohjpaaDoor

open Go Go.RowKit Go.Shelf
set_option maxRecDepth 100000

/-- A token as it is written. -/
def wrB (t : Tk) : ByteArray := if t.kind = 4 then (⟨#[39]⟩ : ByteArray) ++ t.txt ++ (⟨#[39]⟩ : ByteArray) else t.txt

theorem wrB_list (t : Tk) : (wrB t).data.toList = wrL t.kind t.txt.data.toList := by
  unfold wrB wrL
  by_cases h : t.kind = 4
  · rw [if_pos h, if_pos h]; simp
  · rw [if_neg h, if_neg h]

theorem wrB_size (t : Tk) : (wrB t).size ≤ t.txt.size + 2 := by
  unfold wrB
  by_cases h : t.kind = 4
  · rw [if_pos h, ByteArray.size_append, ByteArray.size_append, show (⟨#[39]⟩ : ByteArray).size = 1 from rfl]; omega
  · rw [if_neg h]; omega

set_option maxHeartbeats 1000000 in
theorem lawText_any (t : Tk) (w : World) (hs : t.txt.size ≤ 8000) : Calls Tryd.prog 18 #[t.v] w fun e w' => e = .returned (.string (wrB t)) ∧ Below w.heap.size w w' := by
  have hp1 : ¬ (9223372036854775807 < 1 + t.txt.size) := by omega
  have hp2 : ¬ (9223372036854775807 < 1 + t.txt.size + 1) := by omega
  by_cases h : t.kind = 4
  · have hk : ((t.kind : Int) == 4) = true := by simp [h]
    have HW := Lib.hid (show wrB t = (⟨#[39]⟩ : ByteArray) ++ t.txt ++ (⟨#[39]⟩ : ByteArray) from if_pos h)
    clear h
    simp only [Tk.v]
    go_enter Tryd.func18, Tryd.ntmps18
    go_wp2
    go_ret
    exact ⟨by rw [HW.out]; rfl, (Below.refl _ _).alloc (Nat.le_refl _) _⟩
  · have hk : ((t.kind : Int) == 4) = false := by simp; omega
    have HW := Lib.hid (show wrB t = t.txt from if_neg h)
    clear h
    simp only [Tk.v]
    go_enter Tryd.func18, Tryd.ntmps18
    go_wp2
    go_ret
    exact ⟨by rw [HW.out]; rfl, (Below.refl _ _).alloc (Nat.le_refl _) _⟩

section

variable {Fs : List Fct} {a0 : Act} {W : World} {dst : Option Tmp} {ty : TypeId} {pos : String} {after : Array Edge} {m : Nat}

theorem sw_out {s : Nat} {v : Value} (hs : a0.eval (.tmp s) = v) : stepG Tryd.prog (fun _ _ => True) m Fs a0 W ⟨dst, .move (.tmp s), ty, pos, after, none⟩ [(s, none)] (Fct.eq v) := by
  refine ⟨rfl, fun a w hb hn hl _ => ?_⟩
  have h1 := ev_tk (hl.1.trans hs)
  simp [go_sem, leaves, h1, Fct.eq]
  exact Below.refl _ _

theorem sw_idxS {s s' j j' b k n c : Nat} (hF : Fs.getD j Fct.any = Fct.eq (.slice (some ⟨b, 0, none⟩) n c)) (hF' : Fs.getD j' Fct.any = Fct.eq (.int .i64 (k : Int))) (hk : k < n) :
    stepG Tryd.prog (fun _ _ => True) m Fs a0 W ⟨dst, .indexAddr 35 (.tmp s) (.tmp s'), ty, pos, after, none⟩ [(s, some j), (s', some j')] (Fct.eq (.pointer (some ⟨b, k, none⟩))) := by
  refine ⟨rfl, fun a w hb hn hl _ => ?_⟩
  obtain ⟨h0, h1, _⟩ := hl
  rw [hF] at h0
  rw [hF'] at h1
  have e1 := ev_tk h0
  have e2 := ev_tk h1
  simp [go_sem, leaves, e1, e2, Fct.eq, hk]
  exact Below.refl _ _

theorem sw_idxT {s s' j j' b k n c : Nat} (hF : Fs.getD j Fct.any = Fct.eq (.slice (some ⟨b, 0, none⟩) n c)) (hF' : Fs.getD j' Fct.any = Fct.eq (.int .i64 (k : Int))) (hk : k < n) :
    stepG Tryd.prog (fun _ _ => True) m Fs a0 W ⟨dst, .indexAddr 22 (.tmp s) (.tmp s'), ty, pos, after, none⟩ [(s, some j), (s', some j')] (Fct.eq (.pointer (some ⟨b, k * 3, none⟩))) := by
  refine ⟨rfl, fun a w hb hn hl _ => ?_⟩
  obtain ⟨h0, h1, _⟩ := hl
  rw [hF] at h0
  rw [hF'] at h1
  have e1 := ev_tk h0
  have e2 := ev_tk h1
  simp [go_sem, leaves, e1, e2, Fct.eq, hk]
  exact Below.refl _ _

theorem sw_loadS {s j b k : Nat} {x : ByteArray} (hF : Fs.getD j Fct.any = Fct.eq (.pointer (some ⟨b, k, none⟩))) (hb0 : b < W.heap.size) (hc : W.cell? ⟨b, k, none⟩ = some (.string x)) :
    stepG Tryd.prog (fun _ _ => True) m Fs a0 W ⟨dst, .load 9 (.tmp s), ty, pos, after, none⟩ [(s, some j)] (Fct.eq (.string x)) := by
  refine ⟨rfl, fun a w hb hn hl _ => ?_⟩
  have h0 := hl.1
  rw [hF] at h0
  have e1 := ev_tk h0
  have c0 := cell_on hb hb0 hc
  simp [go_sem, leaves, e1, c0, Fct.eq]
  exact Below.refl _ _

theorem sw_loadT {s j b k : Nat} {t : Tk} (hF : Fs.getD j Fct.any = Fct.eq (.pointer (some ⟨b, k, none⟩))) (hb0 : b < W.heap.size) (c0 : W.cell? ⟨b, k, none⟩ = some (.int .i64 (t.kind : Int))) (c1 : W.cell? ⟨b, k + 1, none⟩ = some (.string t.txt)) (c2 : W.cell? ⟨b, k + 2, none⟩ = some (.int .i64 (t.pos : Int))) :
    stepG Tryd.prog (fun _ _ => True) m Fs a0 W ⟨dst, .load 38 (.tmp s), ty, pos, after, none⟩ [(s, some j)] (Fct.eq t.v) := by
  refine ⟨rfl, fun a w hb hn hl _ => ?_⟩
  have h0 := hl.1
  rw [hF] at h0
  have e1 := ev_tk h0
  have d0 := cell_on hb hb0 c0
  have d1 := cell_on hb hb0 c1
  have d2 := cell_on hb hb0 c2
  simp [go_sem, leaves, e1, d0, d1, d2, Fct.eq, Tk.v]
  exact Below.refl _ _

theorem sw_add {s s' j j' : Nat} {x y : ByteArray} (hF : Fs.getD j Fct.any = Fct.eq (.string x)) (hF' : Fs.getD j' Fct.any = Fct.eq (.string y)) (hz : x.size + y.size ≤ 9223372036854775807) :
    stepG Tryd.prog (fun _ _ => True) m Fs a0 W ⟨dst, .binOp .add 9 (.tmp s) (.tmp s') 9, ty, pos, after, none⟩ [(s, some j), (s', some j')] (Fct.eq (.string (x ++ y))) := by
  refine ⟨rfl, fun a w hb hn hl _ => ?_⟩
  obtain ⟨h0, h1, _⟩ := hl
  rw [hF] at h0
  rw [hF'] at h1
  have e1 := ev_tk h0
  have e2 := ev_tk h1
  have hz' : ¬ (9223372036854775807 < x.size + y.size) := by omega
  simp [go_sem, leaves, e1, e2, Fct.eq, hz']
  exact Below.refl _ _

theorem sw_call1 {f s j : Nat} {v r : Value} {t : TypeId} (hent : Go.Proofs.Enters Tryd.prog f) (hC : ∀ w, Below W.heap.size W w → Calls Tryd.prog f #[v] w fun e w' => e = .returned r ∧ Below w.heap.size w w') (hF : Fs.getD j Fct.any = Fct.eq v) :
    stepG Tryd.prog (fun _ _ => True) m Fs a0 W ⟨dst, .call ⟨.value (.func f), #[.tmp s], #[t]⟩, ty, pos, after, none⟩ [(s, some j)] (Fct.eq r) := by
  refine ⟨rfl, fun a w hb hn hl _ => ?_⟩
  have h0 := hl.1
  rw [hF] at h0
  have e1 := ev_tk h0
  have he := hent #[v] w
  simp [go_sem, leaves, e1, he, Fct.eq]
  exact (hC w hb).mono fun e w' h => ⟨h.1, h.2⟩

end

end Go.Proofs.YtkpkhnaflohjpaaDoor

/- Token: the law TokenAgain. -/

namespace Go.Proofs.YtkpkhnaflohjpaaDoor

open Go Go.RowKit Go.Shelf
set_option maxRecDepth 100000

/-- The slice at A holds the numbers. -/
def IntsK (w : World) (A : Option Addr) (l : List Int) : Prop := ∀ (i : Nat) (x : Int), l[i]? = some x → ∃ b off, A = some ⟨b, off, none⟩ ∧ b < w.heap.size ∧ w.cell? ⟨b, off + i, none⟩ = some (.int .i64 x)

theorem IntsK.on {w w' : World} {A : Option Addr} {l : List Int} (h : IntsK w A l) (hb : Below w.heap.size w w') : IntsK w' A l := fun i x hx => by
  obtain ⟨b, off, e, hl, hc⟩ := h i x hx
  exact ⟨b, off, e, Nat.lt_of_lt_of_le hl hb.size, cell_on hb hl hc⟩

theorem five_of (x : Int) : ∃ j : Nat, (wrap64 (x.tmod 5 + 5)).tmod 5 = (j : Int) ∧ j < 5 := by
  have h1 : x.tmod 5 < 5 := Int.tmod_lt_of_pos _ (by omega)
  have h2 : -5 < x.tmod 5 := by
    have := Int.tmod_lt_of_pos (-x) (show (0 : Int) < 5 by omega)
    rw [Int.neg_tmod] at this
    omega
  generalize x.tmod 5 = m at h1 h2
  have h3 : wrap64 (m + 5) = m + 5 := by
    unfold wrap64; omega
  rw [h3, Int.tmod_eq_emod_of_nonneg (by omega)]
  exact ⟨((m + 5) % 5).toNat, by omega, by omega⟩

/-- What stands between, as texts. -/
def btwB : List ByteArray := [⟨#[32]⟩, ⟨#[10]⟩, ⟨#[32, 37, 32, 97, 32, 39, 32, 34, 10]⟩, ⟨#[47, 42, 32, 39, 32, 42, 47]⟩, ⟨#[9, 13, 32]⟩]

theorem btwB_get {k : Nat} (hk : k < 5) : ∃ b, btwB[k]? = some b ∧ btwL[k]? = some b.data.toList ∧ b.size ≤ 9 := by
  obtain rfl | rfl | rfl | rfl | rfl : k = 0 ∨ k = 1 ∨ k = 2 ∨ k = 3 ∨ k = 4 := by omega
  all_goals exact ⟨_, rfl, rfl, by decide⟩

/-- Which gap stands ahead of the i-th token. -/
def pickK (which : List Int) (i : Nat) : Nat := if which.length = 0 then 0 else match which[i % which.length]? with | some x => ((wrap64 (x.tmod 5 + 5)).tmod 5).toNat | none => 0

theorem pickK_lt (which : List Int) (i : Nat) : pickK which i < 5 := by
  unfold pickK
  split
  · decide
  · split
    · rename_i x _
      obtain ⟨j, hj, hl⟩ := five_of x
      rw [hj]; simpa using hl
    · decide

def ksK (which : List Int) (i : Nat) : List UInt8 := btwL.getD (pickK which i) []

theorem ksK_mem (which : List Int) (i : Nat) : ksK which i ∈ btwL := by
  have h := pickK_lt which i
  unfold ksK
  generalize pickK which i = k at h
  obtain rfl | rfl | rfl | rfl | rfl : k = 0 ∨ k = 1 ∨ k = 2 ∨ k = 3 ∨ k = 4 := by omega
  all_goals simp [btwL]

theorem ksK_of {which : List Int} {i : Nat} {b : ByteArray} (h : btwB[pickK which i]? = some b) : ksK which i = b.data.toList := by
  obtain ⟨b', h1, h2, _⟩ := btwB_get (pickK_lt which i)
  rw [h] at h1
  injection h1 with h1
  subst h1
  unfold ksK
  rw [List.getD_eq_getElem?_getD, h2]; rfl

theorem outL_len (ks : Nat → List UInt8) (hk : ∀ i, ks i ∈ btwL) : ∀ (l : List Tk) (i : Nat), (∀ t ∈ l, t.txt.size ≤ 8000) → (outL ks i l).length ≤ 8011 * l.length
  | [], i, _ => by simp [outL]
  | t :: l, i, h => by
    have ih := outL_len ks hk l (i + 1) fun x hx => h x (by simp [hx])
    have h1 : (ks i).length ≤ 9 := by
      have := hk i
      simp only [btwL, List.mem_cons, List.not_mem_nil, or_false] at this
      rcases this with e | e | e | e | e <;> rw [e] <;> decide
    have h2 : (wrL t.kind t.txt.data.toList).length ≤ 8002 := by
      have := wrB_size t
      have h3 := h t (by simp)
      rw [← wrB_list, toList_len]; omega
    rw [outL, List.length_append, List.length_append, List.length_cons]
    omega

theorem btw_cells (w1 : World) (k : Nat) (b : ByteArray) (h : btwB[k]? = some b) : (w1.alloc (.cells #[.string ⟨#[32]⟩, .string ⟨#[10]⟩, .string ⟨#[32, 37, 32, 97, 32, 39, 32, 34, 10]⟩, .string ⟨#[47, 42, 32, 39, 32, 42, 47]⟩, .string ⟨#[9, 13, 32]⟩] 9)).cell? ⟨w1.heap.size, k, none⟩ = some (.string b) := by
  have hk : k < 5 := (List.getElem?_eq_some_iff.1 h).1
  obtain rfl | rfl | rfl | rfl | rfl : k = 0 ∨ k = 1 ∨ k = 2 ∨ k = 3 ∨ k = 4 := by omega
  all_goals
    simp [btwB] at h
    subst h
    go_simp

theorem outL_next {which : List Int} {l : List Tk} {j : Nat} {t : Tk} {ob b : ByteArray} {T : List UInt8} (ht : l[j]? = some t) (hb : ksK which j = b.data.toList) (h : ob.data.toList ++ outL (ksK which) j (l.drop j) = T) :
    (ob ++ b ++ wrB t).data.toList ++ outL (ksK which) (j + 1) (l.drop (j + 1)) = T := by
  have hj := (List.getElem?_eq_some_iff.1 ht).1
  have hd : l.drop j = t :: l.drop (j + 1) := by
    rw [List.drop_eq_getElem_cons hj, (List.getElem?_eq_some_iff.1 ht).2]
  rw [← h, hd, outL, hb, ← wrB_list]
  simp

set_option maxHeartbeats 4000000 in
theorem TokenAgain_any (s : ByteArray) (which : List Int) (A : Option Addr) (c : Nat) (w : World) (hg : sgn w) (hs : s.size ≤ maxLen) (hI : IntsK w A which) (hwl : which.length ≤ 9223372036854775807) :
    Calls Tryd.prog 6 #[.string s, .slice A which.length c] w fun e w' => e = .returned (.bool true) ∧ Below w.heap.size w w' := by
  have HI := Lib.hid hI
  have Hg := Lib.hid hg
  obtain ⟨nw, hnw⟩ : ∃ nw, which.length = nw := ⟨_, rfl⟩
  rw [hnw] at hwl ⊢
  have Hnw := Lib.hid hnw
  clear hg hI hnw
  by_cases hbad : (cutR s).2.2 ≠ 0
  · have hl0 : (cutR s).1 = [] := by
      unfold cutR at hbad ⊢
      by_cases h : 8000 < s.size
      · rw [if_pos h]
      · rw [if_neg h] at hbad ⊢
        split
        · rfl
        · rename_i e; rw [e] at hbad; exact absurd rfl hbad
    have C1 : Hid (Calls Tryd.prog 8 #[.string s] w fun e w' => ∃ A1 c1 a b, e = .returned (.tuple #[.slice A1 0 c1, .int .i64 a, .int .i64 b]) ∧ (b != 0) = true ∧ Below w.heap.size w w') := Lib.hid ((tokCut_any s w Hg.out hs).mono fun e w' h => by
      obtain ⟨A1, c1, he, hT, hb⟩ := cutPost_read h
      rw [hl0] at he
      exact ⟨A1, c1, _, _, he, by simpa using hbad, hb⟩)
    clear hbad hl0
    go_enter Tryd.func6, Tryd.ntmps6
    go_wp2_with (first
      | (go_at_call 8; (with_reducible refine C1.out.mono ?_); go_must (rintro e w1 ⟨A1, c1, a, b, rfl, hb0, hb1⟩; have hg1 := Lib.hid (sgn_below Hg.out hb1)))
      | (go_at_call 11; (with_reducible refine (tokWakes_any _ hg1.out).mono ?_); go_must (rintro e w5 ⟨rfl, hb5⟩))
      | fail)
    go_ret
    exact ⟨rfl, hb1.trans (hb5.mono hb1.size)⟩
  · have hgood : ∃ l, cutR s = (l, 0, 0) ∧ toks s 0 = (l, none) ∧ s.size ≤ 8000 := by
      unfold cutR at hbad ⊢
      by_cases h : 8000 < s.size
      · rw [if_pos h] at hbad; exact absurd (by decide) hbad
      · rw [if_neg h] at hbad ⊢
        split
        · rename_i p c e
          rw [e] at hbad
          simp only at hbad
          exfalso
          have hr1 := (toks_all s 0 (Nat.zero_le _)).2.2.2
          rw [e] at hr1
          have hr2 := hr1.2
          unfold readT at hr2
          simp only at hr2
          split at hr2
          · injection hr2 with hr2; subst hr2; exact hbad (by decide)
          · split at hr2
            · injection hr2 with hr2; subst hr2; exact hbad (by decide)
            · cases hr2
        · rename_i e
          exact ⟨_, rfl, Prod.ext rfl e, by omega⟩
    obtain ⟨l, hcut, htk, hs8⟩ := hgood
    have hal := toks_all s 0 (Nat.zero_le _)
    rw [htk] at hal
    have hlen : l.length ≤ 8002 := by have := hal.2.1; simp only at this; omega
    have htx : ∀ t ∈ l, t.txt.size ≤ 8000 := fun t ht => by
      obtain ⟨h1, h2, _, _⟩ := hal.1 t ht
      omega
    have C1 : Hid (Calls Tryd.prog 8 #[.string s] w fun e w' => ∃ A1 c1, e = .returned (.tuple #[.slice A1 l.length c1, .int .i64 0, .int .i64 0]) ∧ Hid (TksAt w' A1 l) ∧ Below w.heap.size w w') := Lib.hid ((tokCut_any s w Hg.out hs).mono fun e w' h => by
      obtain ⟨A1, c1, he, hT, hb⟩ := cutPost_read h
      rw [hcut] at he hT
      exact ⟨A1, c1, he, Lib.hid hT, hb⟩)
    have HO := Lib.hid (outL_len (ksK which) (ksK_mem which) l 0 htx)
    have HA := Lib.hid (fun (o : ByteArray) (ho : o.data.toList = outL (ksK which) 0 l) => toks_again (ksK_mem which) l 0 0 [] o (Nat.zero_le _) htk (by rw [ho]; rfl))
    have Htx := Lib.hid htx
    clear hbad hcut htk hal htx
    go_enter Tryd.func6, Tryd.ntmps6
    go_wp2_with (first
      | (go_at_call 8; (with_reducible refine C1.out.mono ?_); go_must (rintro e w1 ⟨A1, cc1, rfl, hT1, hb1⟩; have hg1 := Lib.hid (sgn_below Hg.out hb1)))
      | fail)
    obtain ⟨BB, hBB⟩ : ∃ BB, w1.heap.size = BB := ⟨_, rfl⟩
    obtain ⟨W1, hW1⟩ : ∃ W1, w1.alloc (.cells #[.string ⟨#[32]⟩, .string ⟨#[10]⟩, .string ⟨#[32, 37, 32, 97, 32, 39, 32, 34, 10]⟩, .string ⟨#[47, 42, 32, 39, 32, 42, 47]⟩, .string ⟨#[9, 13, 32]⟩] 9) = W1 := ⟨_, rfl⟩
    have hbW : Below w1.heap.size w1 W1 := by rw [← hW1]; exact (Below.refl _ _).alloc (Nat.le_refl _) _
    have HB := Lib.hid (hb1.trans (hbW.mono hb1.size))
    have HT := Lib.hid (hT1.out.on hbW)
    have HI1 := Lib.hid (HI.out.on HB.out)
    have Hg1 := Lib.hid (sgn_below hg1.out hbW)
    have HC : Hid (BB < W1.heap.size ∧ ∀ k b, btwB[k]? = some b → W1.cell? ⟨BB, k, none⟩ = some (.string b)) := Lib.hid (by
      rw [← hW1, ← hBB]
      exact ⟨by simp, btw_cells w1⟩)
    rw [hW1, hBB]
    clear hW1 hBB hbW hb1 hT1 hg1 C1 HI
    go_loopw [9, 10, 11] (fun o i _ wr => ∃ (ob : ByteArray) (j : Nat), j ≤ l.length ∧ o = .string ob ∧ i = .int .i64 (j : Int) ∧ Hid (ob.data.toList ++ outL (ksK which) j (l.drop j) = outL (ksK which) 0 l) ∧ Hid (Below W1.heap.size W1 wr)) (fun _ i _ _ => l.length - (intOf i).toNat)
    case atStart => exact ⟨⟨#[]⟩, 0, Nat.zero_le _, rfl, rfl, Lib.hid (by simp), Lib.hid (Below.refl _ _)⟩
    case round =>
      obtain ⟨ob, j, hj, rfl, rfl, HQ, Hbr⟩ := hrel
      by_cases hlt : j < l.length
      · obtain ⟨t, ht⟩ : ∃ t, l[j]? = some t := ⟨_, List.getElem?_eq_getElem hlt⟩
        obtain ⟨g, rfl, hgl, c0, c1, c2⟩ := (HT.out.on Hbr.out) j t ht
        obtain ⟨b, hb5, _, hb9⟩ := btwB_get (pickK_lt which j)
        have HQ2 := Lib.hid (outL_next ht (ksK_of hb5) HQ.out)
        have ht8 := Htx.out t (List.mem_of_getElem? ht)
        have hwr := wrB_size t
        have hz0 : ob.size ≤ 8011 * 8002 := by
          have h1 := congrArg List.length HQ.out
          rw [List.length_append, toList_len] at h1
          have h2 := HO.out
          omega
        have hz1 : ob.size + b.size ≤ 9223372036854775807 := by omega
        have hz2 : (ob ++ b).size + (wrB t).size ≤ 9223372036854775807 := by rw [ByteArray.size_append]; omega
        obtain ⟨kk, hKK⟩ : ∃ kk, pickK which j = kk := ⟨_, rfl⟩
        have hk5 := pickK_lt which j
        rw [hKK] at hb5 hk5
        have hBl : BB < wr.heap.size := Nat.lt_of_lt_of_le HC.out.1 Hbr.out.size
        have cb := cell_on Hbr.out HC.out.1 (HC.out.2 kk b hb5)
        have HBr2 := Lib.hid (fun (w4 : World) (h : Below wr.heap.size wr w4) => Hbr.out.trans (h.mono Hbr.out.size))
        clear hwr hz0 hb5 hb9 HQ
        by_cases hwz : 0 < nw
        · have hwi : j % nw < nw := Nat.mod_lt _ hwz
          obtain ⟨x, hx⟩ : ∃ x, which[j % nw]? = some x := ⟨_, List.getElem?_eq_getElem (by rw [Hnw.out]; exact hwi)⟩
          obtain ⟨bw, ow, rfl, hbw, cw⟩ := (HI1.out.on Hbr.out) _ x hx
          have hmod : (j : Int).tmod (nw : Int) = ((j % nw : Nat) : Int) := by rw [Int.tmod_eq_emod_of_nonneg (by omega)]; simp
          have hne : ¬ ((nw : Int) = 0) := by omega
          obtain ⟨k', hkk, _⟩ := five_of x
          have hek : kk = k' := by
            rw [← hKK]
            unfold pickK
            rw [if_neg (by rw [Hnw.out]; omega), Hnw.out, hx]
            simp only [hkk]
            simp
          rw [← hek] at hkk
          clear hek
          clear hx ht hKK
          go_wp2
          refine wp_region_facts3 12 (fun _ _ => True) 122 [[(9, none)], [(8, none)], [(11, none)], [(57, some 1), (58, some 2)], [(59, some 3)], [(56, some 0), (60, some 4)], [(5, none)], [(10, none)], [(62, some 6), (63, some 7)], [(64, some 8)], [(65, some 9)], [(61, some 5), (66, some 10)]]
            [Fct.eq (.string ob), Fct.eq (.slice (some ⟨BB, 0, none⟩) 5 5), Fct.eq (.int .i64 ((kk : Nat) : Int)), Fct.eq (.pointer (some ⟨BB, kk, none⟩)), Fct.eq (.string b), Fct.eq (.string (ob ++ b)), Fct.eq (.slice (some ⟨g, 0, none⟩) l.length cc1), Fct.eq (.int .i64 (j : Int)), Fct.eq (.pointer (some ⟨g, j * 3, none⟩)), Fct.eq t.v, Fct.eq (.string (wrB t)), Fct.eq (.string (ob ++ b ++ wrB t))] (by kernel_rfl) (by decide +kernel) (by decide +kernel) (by kernel_rfl) trivial ?_ ?_
          · exact ⟨sw_out rfl, sw_out rfl, sw_out rfl, sw_idxS rfl rfl hk5, sw_loadS rfl hBl cb, sw_add rfl rfl hz1, sw_out rfl, sw_out rfl, sw_idxT rfl rfl hlt, sw_loadT rfl hgl c0 c1 c2, sw_call1 (enters_of Tryd.func18 (by kernel_rfl) rfl) (fun w1 _ => lawText_any t w1 ht8) rfl, sw_add rfl rfl hz2, trivial⟩
          intro w4 hb4
          generalize hA0 : ({ tmps := _, defers := _ } : Act) = a0
          simp only [List.take_succ_cons, List.take_zero, List.drop_succ_cons, List.drop_zero]
          refine FinS.some rfl (fun u0 (e0 : u0 = _) => ?_)
          subst e0
          refine FinS.some rfl (fun u1 (e1 : u1 = _) => ?_)
          subst e1
          refine FinS.some rfl (fun u2 (e2 : u2 = _) => ?_)
          subst e2
          refine FinS.some rfl (fun u3 (e3 : u3 = _) => ?_)
          subst e3
          refine FinS.some rfl (fun u4 (e4 : u4 = _) => ?_)
          subst e4
          refine FinS.some rfl (fun u5 (e5 : u5 = _) => ?_)
          subst e5
          refine FinS.some rfl (fun u6 (e6 : u6 = _) => ?_)
          subst e6
          refine FinS.some rfl (fun u7 (e7 : u7 = _) => ?_)
          subst e7
          refine FinS.some rfl (fun u8 (e8 : u8 = _) => ?_)
          subst e8
          refine FinS.some rfl (fun u9 (e9 : u9 = _) => ?_)
          subst e9
          refine FinS.some rfl (fun ua (ea : ua = _) => ?_)
          subst ea
          refine FinS.some rfl (fun ub (eb : ub = _) => FinS.nil fun _ => ?_)
          subst eb
          refine ⟨?_⟩
          subst hA0
          simp only [Act.put, List.setIfInBounds_toArray, List.set_cons_succ, List.set_cons_zero]
          unfold tailWp Oper.wp
          go_simp
          unfold tailWp
          go_wp2
          go_roundw
          case rel => exact ⟨ob ++ b ++ wrB t, j + 1, by omega, rfl, by go_num, HQ2, Lib.hid (HBr2.out _ ((Below.refl _ _).drew.trans hb4))⟩
          case measure => simp [intOf]; omega
        · obtain rfl : kk = 0 := by rw [← hKK]; unfold pickK; rw [if_pos (by rw [Hnw.out]; omega)]
          obtain rfl : nw = 0 := by omega
          clear ht hKK
          go_wp2
          refine wp_region_facts3 12 (fun _ _ => True) 122 [[(9, none)], [(8, none)], [(11, none)], [(57, some 1), (58, some 2)], [(59, some 3)], [(56, some 0), (60, some 4)], [(5, none)], [(10, none)], [(62, some 6), (63, some 7)], [(64, some 8)], [(65, some 9)], [(61, some 5), (66, some 10)]]
            [Fct.eq (.string ob), Fct.eq (.slice (some ⟨BB, 0, none⟩) 5 5), Fct.eq (.int .i64 ((0 : Nat) : Int)), Fct.eq (.pointer (some ⟨BB, 0, none⟩)), Fct.eq (.string b), Fct.eq (.string (ob ++ b)), Fct.eq (.slice (some ⟨g, 0, none⟩) l.length cc1), Fct.eq (.int .i64 (j : Int)), Fct.eq (.pointer (some ⟨g, j * 3, none⟩)), Fct.eq t.v, Fct.eq (.string (wrB t)), Fct.eq (.string (ob ++ b ++ wrB t))] (by kernel_rfl) (by decide +kernel) (by decide +kernel) (by kernel_rfl) trivial ?_ ?_
          · exact ⟨sw_out rfl, sw_out rfl, sw_out rfl, sw_idxS rfl rfl hk5, sw_loadS rfl hBl cb, sw_add rfl rfl hz1, sw_out rfl, sw_out rfl, sw_idxT rfl rfl hlt, sw_loadT rfl hgl c0 c1 c2, sw_call1 (enters_of Tryd.func18 (by kernel_rfl) rfl) (fun w1 _ => lawText_any t w1 ht8) rfl, sw_add rfl rfl hz2, trivial⟩
          intro w4 hb4
          generalize hA0 : ({ tmps := _, defers := _ } : Act) = a0
          simp only [List.take_succ_cons, List.take_zero, List.drop_succ_cons, List.drop_zero]
          refine FinS.some rfl (fun u0 (e0 : u0 = _) => ?_)
          subst e0
          refine FinS.some rfl (fun u1 (e1 : u1 = _) => ?_)
          subst e1
          refine FinS.some rfl (fun u2 (e2 : u2 = _) => ?_)
          subst e2
          refine FinS.some rfl (fun u3 (e3 : u3 = _) => ?_)
          subst e3
          refine FinS.some rfl (fun u4 (e4 : u4 = _) => ?_)
          subst e4
          refine FinS.some rfl (fun u5 (e5 : u5 = _) => ?_)
          subst e5
          refine FinS.some rfl (fun u6 (e6 : u6 = _) => ?_)
          subst e6
          refine FinS.some rfl (fun u7 (e7 : u7 = _) => ?_)
          subst e7
          refine FinS.some rfl (fun u8 (e8 : u8 = _) => ?_)
          subst e8
          refine FinS.some rfl (fun u9 (e9 : u9 = _) => ?_)
          subst e9
          refine FinS.some rfl (fun ua (ea : ua = _) => ?_)
          subst ea
          refine FinS.some rfl (fun ub (eb : ub = _) => FinS.nil fun _ => ?_)
          subst eb
          refine ⟨?_⟩
          subst hA0
          simp only [Act.put, List.setIfInBounds_toArray, List.set_cons_succ, List.set_cons_zero]
          unfold tailWp Oper.wp
          go_simp
          unfold tailWp
          go_wp2
          go_roundw
          case rel => exact ⟨ob ++ b ++ wrB t, j + 1, by omega, rfl, by go_num, HQ2, Lib.hid (HBr2.out _ ((Below.refl _ _).drew.trans hb4))⟩
          case measure => simp [intOf]; omega
      · obtain rfl : j = l.length := by omega
        have ho : ob.data.toList = outL (ksK which) 0 l := by
          have := HQ.out
          rw [List.drop_eq_nil_of_le (Nat.le_refl _), outL, List.append_nil] at this
          exact this
        obtain ⟨l', hl', hm⟩ := HA.out ob ho
        have hll : l'.length = l.length := by
          have := congrArg List.length hm
          simpa using this
        have hz0 : ob.size ≤ 8011 * 8002 := by
          rw [← toList_len, ho]
          have h2 := HO.out
          omega
        have HBw : Hid (Below w.heap.size w wr) := Lib.hid (HB.out.trans (Hbr.out.mono HB.out.size))
        have Hgr := Lib.hid (sgn_below Hg1.out Hbr.out)
        by_cases hbig : 8000 < ob.size
        · have hcut : cutR ob = ([], 0, 3) := if_pos hbig
          have C2 : Hid (Calls Tryd.prog 8 #[.string ob] wr fun e w' => ∃ A2 c2, e = .returned (.tuple #[.slice A2 0 c2, .int .i64 0, .int .i64 3]) ∧ Below wr.heap.size wr w') := Lib.hid ((tokCut_any ob wr Hgr.out (by unfold maxLen; omega)).mono fun e w' h => by
            obtain ⟨A1, c1, he, hT, hb⟩ := cutPost_read h
            rw [hcut] at he
            exact ⟨A1, c1, he, hb⟩)
          have hbig' : (8000 : Int) < (ob.size : Int) := by omega
          clear hcut hl' hm hll ho HA HO HQ
          go_wp2_with (first
            | (go_at_call 8; (with_reducible refine C2.out.mono ?_); go_must (rintro e w2 ⟨A2, c2, rfl, hb2⟩; have hg2 := Lib.hid (sgn_below Hgr.out hb2); have HB2 := Lib.hid (HBw.out.trans (hb2.mono HBw.out.size))))
            | (go_at_call 11; (with_reducible refine (tokWakes_any _ hg2.out).mono ?_); go_must (rintro e w5 ⟨rfl, hb5⟩))
            | fail)
          go_ret
          exact ⟨rfl, HB2.out.trans (hb5.mono HB2.out.size)⟩
        · have hcut : cutR ob = (l', 0, 0) := by
            unfold cutR
            have hl2 : toks ob 0 = (l', none) := hl'
            rw [if_neg hbig, hl2]
          have C2 : Hid (Calls Tryd.prog 8 #[.string ob] wr fun e w' => ∃ A2 c2, e = .returned (.tuple #[.slice A2 l.length c2, .int .i64 0, .int .i64 0]) ∧ Hid (TksAt w' A2 l') ∧ Below wr.heap.size wr w') := Lib.hid ((tokCut_any ob wr Hgr.out (by unfold maxLen; omega)).mono fun e w' h => by
            obtain ⟨A1, c1, he, hT, hb⟩ := cutPost_read h
            rw [hcut] at he hT
            rw [hll] at he
            exact ⟨A1, c1, he, Lib.hid hT, hb⟩)
          have hbig' : ¬ (8000 : Int) < (ob.size : Int) := by omega
          have HM := Lib.hid hm
          have Hll := Lib.hid hll
          have HTr := Lib.hid (HT.out.on Hbr.out)
          clear hcut hl' hm hll ho HA HO HQ
          go_wp2_with (first
            | (go_at_call 8; (with_reducible refine C2.out.mono ?_); go_must (rintro e w2 ⟨A2, c2, rfl, hT2, hb2⟩; have hg2 := Lib.hid (sgn_below Hgr.out hb2); have HB2 := Lib.hid (HBw.out.trans (hb2.mono HBw.out.size)); have hT1 := Lib.hid (HTr.out.on hb2)))
            | fail)
          go_loopw [15] (fun i wr2 => ∃ k q : Nat, k ≤ l.length ∧ i = .int .i64 k ∧ wr2 = w2.drewN q) (fun i _ => l.length - (intOf i).toNat)
          case atStart => exact ⟨0, 0, Nat.zero_le _, rfl, rfl⟩
          case round =>
            obtain ⟨k, q, hk, rfl, rfl⟩ := hrel
            by_cases hlt : k < l.length
            · obtain ⟨t, ht⟩ : ∃ t, l[k]? = some t := ⟨_, List.getElem?_eq_getElem hlt⟩
              obtain ⟨t', ht'⟩ : ∃ t', l'[k]? = some t' := ⟨_, List.getElem?_eq_getElem (by rw [Hll.out]; exact hlt)⟩
              have hkt : t'.kt = t.kt := by
                have := congrArg (·[k]?) HM.out
                simp only [List.getElem?_map, ht, ht', Option.map_some] at this
                exact Option.some.inj this
              have hk1 : t'.kind = t.kind := congrArg Prod.fst hkt
              have hk2 : t'.txt = t.txt := congrArg Prod.snd hkt
              obtain ⟨g, rfl, _, c0, c1, _⟩ := hT1.out k t ht
              obtain ⟨g', rfl, _, d0, d1, _⟩ := hT2.out k t' ht'
              rw [hk1] at d0
              rw [hk2] at d1
              have hs2 : (t.txt.toList == t.txt.toList) = true := by simp
              clear hkt hk1 hk2 ht ht'
              go_wp2
              go_quiet (fail)
              go_wp2
              go_roundw
              case rel => exact ⟨k + 1, q + nq, by omega, by go_num, rfl⟩
              case measure => simp [intOf]; omega
            · obtain rfl : k = l.length := by omega
              go_wp2_with (first
                | (go_at_call 11; (with_reducible refine (tokWakes_any _ (sgn_below hg2.out (bl_drewN (Below.refl _ _) _))).mono ?_); go_must (rintro e w5 ⟨rfl, hb5⟩))
                | fail)
              go_ret
              exact ⟨rfl, (bl_drewN HB2.out q).trans (hb5.mono HB2.out.size)⟩

end Go.Proofs.YtkpkhnaflohjpaaDoor

/- Token: a row of numbers that is an argument. -/

namespace Go.Proofs.YtkpkhnaflohjpaaDoor

open Go.ChangeShapes Go.WideShapes Go.ChangeAt Go.RowKit
set_option maxRecDepth 100000

variable {H : Type} {enc : TypeId × Value → H} {W : World} {base : Nat} {held : Bool}

theorem cellsIntk : Tryd.prog.cellsOf 3 = 1 := by kernel_rfl

theorem cell_spotk {W : World} {a : Addr} {v : Value} (h : W.cell? a = some v) : a.spot = none := by
  unfold World.cell? at h
  split at h
  · split at h
    · cases h
    · rename_i hs; simpa using hs
  · cases h

theorem open_intsk {r : Reach} {b0 : Nat} {v : Value} {d : DataW H} {ps : List MemPlace} (hv : Value.okWide Tryd.prog W r b0 34 v) (h : DataW.Trod enc Tryd.prog W base (fun _ => true) held 34 v d ps) :
    ∃ (p : List Int) (A : Option Addr) (c : Nat), v = .slice A p.length c ∧ p.length ≤ 9223372036854775807 ∧ IntsK W A p := by
  obtain ⟨a, len, cap, rfl⟩ := okWide_slice Tryd.underlying34 hv
  obtain ⟨fuel, hf⟩ := h
  rcases open_ints Tryd.underlying34 Tryd.underlying3 cellsIntk hf with ⟨hcs, _⟩ | ⟨ad, n, cp, zs, hcs, _, hn, hmax, hzl, _, hcell, hwf⟩
  · have hcs' : [Value.slice a len cap] = [.slice none 0 0] := hcs
    injection hcs' with hcs' _
    injection hcs' with e1 e2 e3
    subst e1; subst e2; subst e3
    exact ⟨[], none, 0, rfl, by simp, fun i x h => by simp at h⟩
  · have hcs' : [Value.slice a len cap] = [.slice (some ad) n cp] := hcs
    injection hcs' with hcs' _
    injection hcs' with e1 e2 e3
    subst e1; subst e2; subst e3
    simp only [if_true] at hzl
    have hl : (zs.take len).length = len := by rw [List.length_take]; omega
    refine ⟨zs.take len, some ad, cap, by rw [hl], by unfold maxLen at hmax; omega, fun i x hi => ?_⟩
    have hil := (List.getElem?_eq_some_iff.1 hi).1
    have c0 := hcell 0 (by omega)
    obtain ⟨blk, off, spot⟩ := ad
    simp only [Addr.add, if_true] at c0
    obtain rfl : spot = none := cell_spotk c0
    refine ⟨blk, off, rfl, World.block_lt_of_cell? W _ c0, ?_⟩
    have h1 := hcell i (by omega)
    rw [Addr.add_lit] at h1
    rw [h1]
    rw [List.getElem?_take] at hi
    split at hi
    · rw [List.getD_eq_getElem?_getD, hi]; rfl
    · cases hi

end Go.Proofs.YtkpkhnaflohjpaaDoor

