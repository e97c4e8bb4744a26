/- text. -/
import Derived.Test.YtimgomoafeaoiaaDoorG1
import Derived.RangeFuncBox
import Derived.Test.YtimgomoafeaoiaaDoorR2
namespace Go.Proofs.YtimgomoafeaoiaaDoor
open Go.RowKit
set_option maxRecDepth 100000

theorem infoStr : (Tryd.prog.info? 9).map (fun i => (i.zero, i.size, i.bytes)) = some (some (.string ByteArray.empty), 1, 16) := by kernel_rfl

theorem join_size (xs : List ByteArray) : (joinB xs).size ≤ (xs.map fun x => x.size + 1).sum := by
  have h := join_len commaS.data.toList (xs.map (·.data.toList))
  have e : (joinB xs).size = (Lib.join (xs.map (·.data.toList)) commaS.data.toList).length := by simp [joinB, ByteArray.size]
  rw [e]
  refine Nat.le_trans h (Nat.le_of_eq ?_)
  rw [List.map_map]
  congr 1
theorem app_size (name : ByteArray) (xs : List ByteArray) : (appT name xs).size ≤ name.size + 2 + (joinB xs).size := by
  unfold appT
  split
  · omega
  · simp only [ByteArray.size_append]
    show name.size + 1 + (joinB xs).size + 1 ≤ _
    omega
/-- How long a text is at most. -/
theorem txt_size {l : List Sm} (hl : ∀ s ∈ l, s.name.size ≤ 40) (t : Tm) : Fine l t → (txtT l t).size + 1 ≤ 50 * t.size := by
  refine Tm.ind (P := fun t => Fine l t → (txtT l t).size + 1 ≤ 50 * t.size) (fun f xs ih h => ?_) t
  rcases fine_inv h with ⟨hf, h48, rfl⟩ | ⟨hf, s, hs, _, hk⟩
  · simp only [txtT, if_pos hf, Tm.size, sizes, ByteArray.size_append]
    have := itoa_size (-1 - f).toNat (by omega)
    show 1 + _ + 1 ≤ _
    omega
  · simp only [txtT, if_neg hf, hs, Option.getD_some, Tm.size]
    have h1 := app_size s.name (txtL l xs)
    have h2 := hl s (List.mem_of_getElem? hs)
    have h3 := join_size (txtL l xs)
    have key : ∀ ys : List Tm, (∀ t ∈ ys, t ∈ xs) → ((txtL l ys).map fun x => x.size + 1).sum ≤ 50 * sizes ys := by
      intro ys
      induction ys with
      | nil => intro _; simp [txtL, sizes]
      | cons y ys ihy =>
        intro hm
        simp only [txtL, sizes, List.map_cons, List.sum_cons]
        have e1 := ih y (hm y (by simp)) (hk y (hm y (by simp)))
        have e2 := ihy fun t ht => hm t (by simp [ht])
        omega
    have := key xs fun _ h => h
    omega

theorem row_strs {W : World} {base n : Nat} {e : TypeId} {v : Value} {xs : List ByteArray} (h : W.ownsRow base e 1 v n (xs.map Value.string)) : ∃ A c, v = .slice A n c ∧ xs.length = n ∧ (0 < n → ∃ b, A = some ⟨b, 0, none⟩ ∧ b < W.heap.size ∧ n ≤ c ∧ ∀ (j : Nat) (x : ByteArray), xs[j]? = some x → W.cell? ⟨b, 0 + j, none⟩ = some (.string x)) := by
  have hl : xs.length = n := by have := h.1; simpa using this
  have h' := h
  rcases h.2 with ⟨rfl, rfl⟩ | ⟨g, cap, cur, rfl, hb, hg, hnc, _⟩
  · exact ⟨none, 0, rfl, hl, fun h => absurd h (by omega)⟩
  · refine ⟨_, cap, rfl, hl, fun _ => ⟨g, rfl, (Array.getElem?_eq_some_iff.1 hg).1, hnc, fun j x hx => ?_⟩⟩
    have hj := (List.getElem?_eq_some_iff.1 hx).1
    rw [Nat.zero_add, h'.cellAt j (by omega)]
    simp [hx]

def TextAt (l : List Sm) (t : Tm) : Prop := Fine l t → t.size ≤ 1000 → ∀ (As A : Option Addr) (cs c : Nat) (w : World), I64 t.fn → Syms w w.heap.size As l.length l → Args w w.heap.size A t.args →
  Calls Tryd.prog 28 #[.agg #[.slice As l.length cs], .agg #[.int .i64 t.fn, .slice A t.args.length c]] w fun e w' => e = .returned (.string (txtT l t)) ∧ Below w.heap.size w w'

set_option maxHeartbeats 2000000 in
theorem text_any (l : List Sm) (hl : ∀ s ∈ l, s.name.size ≤ 40) (hl64 : l.length ≤ 9223372036854775807) (t : Tm) : TextAt l t := by
  refine Tm.ind (P := TextAt l) (fun f xs ih => ?_) t
  intro hF hsz As A cs c w hf hS hA
  have hlen : xs.length ≤ 1000 := by have := sizes_len xs; simp only [Tm.size] at hsz; omega
  obtain ⟨i0, hi, hz0, hz1, hz2⟩ := info_parts infoStr
  simp only [Tm.fn, Tm.args] at hf hA ⊢
  obtain ⟨p0, p1⟩ := heap2 w (.cells #[.slice As l.length cs] 48) (.cells #[.int .i64 f, .slice A xs.length c] 24)
  obtain ⟨W, hW⟩ : ∃ W, ((w.alloc (.cells #[.slice As l.length cs] 48)).alloc (.cells #[.int .i64 f, .slice A xs.length c] 24)) = W := ⟨_, rfl⟩
  have hB : Below w.heap.size w W := by rw [← hW]; exact ((Below.refl _ _).alloc (Nat.le_refl _) _).alloc (by simp) _
  rw [hW] at p0 p1
  have hWs : w.heap.size + 1 < W.heap.size := (Array.getElem?_eq_some_iff.1 p1).1
  have HW := Lib.hid hW
  clear hW
  rcases fine_inv hF with ⟨hf0, h48, rfl⟩ | ⟨hf0, s, hs, har, hk⟩
  · obtain ⟨k, hk⟩ : ∃ k : Nat, -1 - f = (k : Int) := ⟨(-1 - f).toNat, by omega⟩
    have hk100 : k < 100 := by omega
    have htx : txtT l (.node f []) = ⟨#[88]⟩ ++ itoaB k := by simp only [txtT, if_pos hf0, hk, Int.toNat_natCast]
    have hit := itoa_size k hk100
    have hsum : ¬ ((⟨#[88]⟩ : ByteArray).size + (itoaB k).size > 9223372036854775807) := by show ¬ (1 + _ > _); omega
    have Ht := Lib.hid htx
    have HW0 : Hid (((w.alloc (.cells #[.slice As l.length cs] 48)).alloc (.cells #[.int .i64 f, .slice A 0 c] 24)) = W) := HW.out
    clear htx hsz
    go_enter Tryd.func28, Tryd.ntmps28
    go_wp2_with (first
      | (go_at_call 38
         go_must (
         rw [HW0.out]
         refine (variable_any f _ W hf hf0).mono ?_
         rintro e w1 ⟨rfl, hb1⟩
         rw [hk]))
      | (go_at_call 37
         go_must (
         refine (Itoa_any k hk100 w1).mono ?_
         rintro e w2 ⟨rfl, rfl⟩))
      | fail)
    go_ret
    exact ⟨by rw [Ht.out]; rfl, hB.trans (hb1.mono hB.size)⟩
  · have htx : txtT l (.node f xs) = appT s.name (txtL l xs) := by simp only [txtT, if_neg hf0, hs, Option.getD_some]
    obtain ⟨a0, _⟩ := cells_one p0
    obtain ⟨b0, b1, _, _⟩ := cells_two p1
    have Ht := Lib.hid htx
    have HS := Lib.hid hS
    clear htx
    go_enter Tryd.func28, Tryd.ntmps28
    go_upto_region 1 with fail
    rw [HW.out]
    go_wp2
    go_loopw [5, 18] (fun v i wr => ∃ k : Nat, k ≤ xs.length ∧ i = .int .i64 (k : Int) ∧ wr.ownsRow W.heap.size 9 1 v k ((txtL l (xs.take k)).map Value.string) ∧ Below W.heap.size W wr) (fun _ i _ => xs.length - (intOf i).toNat)
    case atStart => exact ⟨0, Nat.zero_le _, rfl, by simpa [txtL] using World.ownsRow_nil W _ _ _, Below.refl _ _⟩
    case round =>
      obtain ⟨k, hk', rfl, hrow, hBr⟩ := hrel
      by_cases hlt : k < xs.length
      · obtain ⟨u, hu⟩ : ∃ u, xs[k]? = some u := ⟨_, List.getElem?_eq_getElem hlt⟩
        obtain ⟨bb, off, A1, c1, rfl, ha⟩ := (hA.on (hB.trans (hBr.mono hB.size))).get hu
        have e0 := ha.c0
        have e1 := ha.c1
        have hmem := List.mem_of_getElem? hu
        have hszu : u.size ≤ 1000 := by have := size_mem hmem; simp only [Tm.size] at hsz; omega
        have hu64 := ha.hi
        have hBa : Below wr.heap.size wr (wr.alloc (.cells #[.int .i64 u.fn, .slice A1 u.args.length c1] 24)) := (Below.refl _ _).alloc (Nat.le_refl _) _
        have hsub := Lib.hid (ha.sub.on hBa)
        have hsy := Lib.hid (HS.out.on ((hB.trans (hBr.mono hB.size)).trans (hBa.mono (show w.heap.size ≤ wr.heap.size by have := hBr.size; omega))))
        have hBrs := hBr.size
        have g0 := cell_on hBa (b := w.heap.size) (o := 0) (by omega) (cell_on hBr (by omega) a0)
        have Hu := Lib.hid hu
        clear hu ha
        go_wp2_with (first
          | (go_at_call 28
             go_must (
             refine (ih u hmem (hk u hmem) hszu As A1 cs c1 _ hu64 hsy.out hsub.out).mono ?_
             rintro e w2 ⟨rfl, hb2⟩
             have hB2 := bl_step hBa hb2
             have hrow2 := Lib.hid (row_keep hrow (fun g hg => hB2.block g (row_lt hrow g hg).2))))
          | (at_builtin
             go_must (
             refine wpList_append_own _ rfl _ _ 70 rfl W.heap.size 9 i0 (.string ByteArray.empty) 1 16 Tryd.underlying70 hi hz0 hz1 hz2 rfl (by decide) _ k _ rfl (hrow2.out.alloc _) ⟨w2.heap.size, 0, none⟩ 1 1 [.string (txtT l u)] rfl rfl (cell_one_new _ _ _) (by simp [Value.oneCell']) (by unfold maxLen; omega) (by omega) (by have := hB2.size; simp; omega) ?_
             intro v1 w3 hown3 hgr3 _
             obtain ⟨g3, cap3, rfl⟩ := ownsRow_succ hown3))
          | fail)
        have hrl := row_lt hrow
        refine ⟨⟨k + 1, by omega, by go_num, ?_, ?_⟩, by simp [intOf]; omega⟩
        · rw [txtL_map, List.take_add_one, Hu.out, List.map_append, List.map_append, ← txtL_map]
          exact hown3
        · refine (((hBr.trans (hB2.mono hBrs)).alloc (by have := hB2.size; omega) _)).grown hgr3 (by have := hB2.size; simp; omega) fun g hg => ?_
          exact (hrl g hg).1
      · obtain rfl : k = xs.length := by omega
        rw [List.take_length] at hrow
        obtain ⟨A1, c1, rfl, hxl, hc⟩ := row_strs hrow
        have hBw : Below w.heap.size w wr := hB.trans (hBr.mono hB.size)
        obtain ⟨k0, rfl⟩ : ∃ k0 : Nat, f = (k0 : Int) := ⟨f.toNat, by omega⟩
        have hs' : l[k0]? = some s := by simpa using hs
        have hk0 : k0 < l.length := (List.getElem?_eq_some_iff.1 hs').1
        obtain ⟨sb, so, rfl, hsb, hsc⟩ := (HS.out.on hBw).ad (by omega)
        have y0 := (hsc _ _ hs').1
        have x0 := cell_on hBr (b := w.heap.size) (o := 0) (by omega) a0
        have x1 := cell_on hBr (b := w.heap.size + 1) (o := 0) (by omega) b0
        have hnm := hl s (List.mem_of_getElem? hs')
        have hbig := txt_size hl _ hF
        have hjs : (joinB (txtL l xs)).size ≤ 50000 := by
          have h1 := join_size (txtL l xs)
          have key : ∀ ys : List Tm, (∀ t ∈ ys, t ∈ xs) → ((txtL l ys).map fun x => x.size + 1).sum ≤ 50 * sizes ys := by
            intro ys
            induction ys with
            | nil => intro _; simp [txtL, sizes]
            | cons y ys ihy =>
              intro hm
              simp only [txtL, sizes, List.map_cons, List.sum_cons]
              have e1 := txt_size hl y (hk y (hm y (by simp)))
              have e2 := ihy fun t ht => hm t (by simp [ht])
              omega
          have := key xs fun _ h => h
          simp only [Tm.size] at hsz
          omega
        have Hc := Lib.hid hc
        have hap := Lib.hid (applied_any s.name (txtL l xs) A1 c1 wr (by rw [hxl]; exact hc) (by omega) (by omega) (by omega))
        have hk0' : (k0 : Int) < l.length := by omega
        clear hs hs' hsc hc hbig hk ih
        rw [hxl] at hap
        go_wp2_with (first
          | (go_at_call 39
             go_must (
             refine (hap.out).mono ?_
             rintro e w1 ⟨rfl, hb1⟩))
          | fail)
        go_ret
        exact ⟨by rw [Ht.out]; rfl, hBw.trans (hb1.mono hBw.size)⟩
end Go.Proofs.YtimgomoafeaoiaaDoor
