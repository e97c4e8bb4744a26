/- The document's own answers: words, Text. -/
import Derived.Test.YtkgikjjngbifjaaDoorD4
namespace Go.Proofs.YtkgikjjngbifjaaDoor
open Go.RowKit
set_option maxRecDepth 100000

/-- What stands before the bracket is shut, with k arguments. -/
def openT (name : ByteArray) (xs : List ByteArray) : ByteArray := if xs.length = 0 then name else name ++ ⟨#[40]⟩ ++ joinB xs
theorem joinB_cat (xs : List ByteArray) (y : ByteArray) (h : 0 < xs.length) : joinB (xs ++ [y]) = joinB xs ++ commaS ++ y := by
  have key : ∀ (xs : List (List UInt8)) (y sep : List UInt8), 0 < xs.length → Lib.join (xs ++ [y]) sep = Lib.join xs sep ++ sep ++ y := by
    intro xs
    induction xs with
    | nil => intro y sep h; simp at h
    | cons x xs ih =>
      intro y sep _
      cases xs with
      | nil => simp [join_cons, join_one]
      | cons z zs =>
        have := ih y sep (by simp)
        simp only [List.cons_append] at this ⊢
        rw [join_cons, join_cons, this]
        simp [List.append_assoc]
  apply ByteArray.ext
  apply Array.toList_inj.1
  simp only [joinB, List.map_append, List.map_cons, List.map_nil, ByteArray.data_append, Array.toList_append]
  exact key _ _ _ (by simpa using h)
theorem joinB_one (y : ByteArray) : joinB [y] = y := by
  apply ByteArray.ext
  apply Array.toList_inj.1
  simp [joinB, join_one]
theorem open_zero (name y : ByteArray) : openT name ([] ++ [y]) = name ++ ⟨#[40]⟩ ++ y := by
  simp only [openT, List.nil_append, joinB_one]; rfl
theorem open_more (name y : ByteArray) (xs : List ByteArray) (h : 0 < xs.length) : openT name (xs ++ [y]) = openT name xs ++ ⟨#[44]⟩ ++ y := by
  simp only [openT]
  rw [if_neg (by simp), if_neg (by omega), joinB_cat xs y h]
  simp only [ByteArray.append_assoc]
  rfl
theorem app_open (name : ByteArray) (xs : List ByteArray) : appT name xs = if xs.length = 0 then name else openT name xs ++ ⟨#[41]⟩ := by
  unfold appT openT
  split <;> rfl
theorem open_size (name : ByteArray) (xs : List ByteArray) : (openT name xs).size ≤ name.size + 1 + (joinB xs).size := by
  unfold openT
  split
  · omega
  · simp only [ByteArray.size_append]
    show name.size + 1 + _ ≤ _
    omega

def WordsAt (l : List Sm) (t : Tm) : Prop := Fine l t → t.size ≤ 1000 → ∀ (As A : Option Addr) (cs c : Nat) (w : World), I64 t.fn → Syms w w.heap.size As l.length l → Args w w.heap.size A t.args →
  Calls Tryd.prog 34 #[.agg #[.slice As l.length cs], .agg #[.int .i64 t.fn, .slice A t.args.length c]] w fun e w' => e = .returned (.string (txtT l t)) ∧ Below w.heap.size w w'

set_option maxHeartbeats 2000000 in
theorem words_any (l : List Sm) (hl : ∀ s ∈ l, s.name.size ≤ 40) (hl64 : l.length ≤ 9223372036854775807) (t : Tm) : WordsAt l t := by
  refine Tm.ind (P := WordsAt l) (fun f xs ih => ?_) t
  intro hF hsz As A cs c w hf hS hA
  have hlen : xs.length ≤ 1000 := by have := sizes_len xs; simp only [Tm.size] at hsz; omega
  simp only [Tm.fn, Tm.args] at hf hA ⊢
  obtain ⟨p0, p1⟩ := heap2 w (.cells #[.slice As l.length cs] 24) (.cells #[.int .i64 f, .slice A xs.length c] 27)
  obtain ⟨W, hW⟩ : ∃ W, ((w.alloc (.cells #[.slice As l.length cs] 24)).alloc (.cells #[.int .i64 f, .slice A xs.length c] 27)) = W := ⟨_, rfl⟩
  have hB : Below w.heap.size w W := by rw [← hW]; exact ((Below.refl _ _).alloc (Nat.le_refl _) _).alloc (by simp) _
  rw [hW] at p0 p1
  have hWs : w.heap.size + 1 < W.heap.size := (Array.getElem?_eq_some_iff.1 p1).1
  have hSS : ∀ w', Below W.heap.size W w' → w'.cell? ⟨w.heap.size, 0, none⟩ = some (.slice As l.length cs) ∧ w'.cell? ⟨w.heap.size + 1, 1, none⟩ = some (.slice A xs.length c) := fun w' h =>
    ⟨(cells_one ((h.block _ (by omega)).trans p0)).1, (cells_two ((h.block _ hWs).trans p1)).2.1⟩
  obtain ⟨a0, _⟩ := cells_one p0
  obtain ⟨b0, b1, _, _⟩ := cells_two p1
  have HW := Lib.hid hW
  clear hW p0 p1
  rcases fine_inv hF with ⟨hf0, h48, rfl⟩ | ⟨hf0, s, hs, har, hk⟩
  · obtain ⟨k, hk⟩ : ∃ k : Nat, -1 - f = (k : Int) := ⟨(-1 - f).toNat, by omega⟩
    have hk100 : k < 100 := by omega
    have htx : txtT l (.node f []) = ⟨#[88]⟩ ++ itoaB k := by simp only [txtT, if_pos hf0, hk, Int.toNat_natCast]
    have hit := itoa_size k hk100
    have hsum : ¬ ((⟨#[88]⟩ : ByteArray).size + (itoaB k).size > 9223372036854775807) := by show ¬ (1 + _ > _); omega
    have Ht := Lib.hid htx
    clear htx hsz
    have f1 := hf.1
    have f2 := hf.2
    go_enter Tryd.func34, Tryd.ntmps34
    go_upto_region 1 with fail
    rw [show (w.alloc (.cells #[.slice As l.length cs] 24)).alloc (.cells #[.int .i64 f, .slice A 0 c] 27) = W from HW.out]
    go_wp2_with (first
      | (go_at_call 57
         go_must (
         refine (Digits_any k hk100 W).mono ?_
         rintro e w2 ⟨rfl, hb2⟩))
      | fail)
    go_ret
    exact ⟨by rw [Ht.out]; rfl, hB.trans (hb2.mono hB.size)⟩
  · have htx : txtT l (.node f xs) = appT s.name (txtL l xs) := by simp only [txtT, if_neg hf0, hs, Option.getD_some]
    obtain ⟨k0, rfl⟩ : ∃ k0 : Nat, f = (k0 : Int) := ⟨f.toNat, by omega⟩
    have hs' : l[k0]? = some s := by simpa using hs
    have hk0 : k0 < l.length := (List.getElem?_eq_some_iff.1 hs').1
    obtain ⟨sb, so, rfl, hsb, hsc⟩ := (hS.on hB).ad (by omega)
    have y0 := (hsc _ _ hs').1
    have hk0' : (k0 : Int) < l.length := by omega
    have hge' : (k0 : Int) ≥ 0 := by omega
    have hnm := hl s (List.mem_of_getElem? hs')
    have hbound : ∀ k, (openT s.name (txtL l (xs.take k))).size ≤ 60000 := by
      intro k
      have h1 := open_size s.name (txtL l (xs.take k))
      have h2 := join_size (txtL l (xs.take k))
      have key : ∀ ys : List Tm, (∀ t ∈ ys, t ∈ xs) → ((txtL l ys).map fun x => x.size + 1).sum ≤ 50 * sizes ys := by
        intro ys
        induction ys with
        | nil => intro _; simp [txtL, sizes]
        | cons y ys ihy =>
          intro hm
          simp only [txtL, sizes, List.map_cons, List.sum_cons]
          have e1 := txt_size hl y (hk y (hm y (by simp)))
          have e2 := ihy fun t ht => hm t (by simp [ht])
          omega
      have h3 := key (xs.take k) fun t ht => List.mem_of_mem_take ht
      have h4 := sizes_le xs k
      simp only [Tm.size] at hsz
      omega
    have Ht := Lib.hid htx
    have HS := Lib.hid hS
    clear htx hs hs' hsc
    go_enter Tryd.func34, Tryd.ntmps34
    go_upto_region 1 with fail
    rw [HW.out]
    go_wp2
    clear a0 b0 b1 y0
    go_loopw [5, 6] (fun v i wr => ∃ k : Nat, k ≤ xs.length ∧ i = .int .i64 (k : Int) ∧ v = .string (openT s.name (txtL l (xs.take k))) ∧ Below W.heap.size W wr) (fun _ i _ => xs.length - (intOf i).toNat)
    case atStart => exact ⟨0, Nat.zero_le _, rfl, by simp [txtL, openT], Below.refl _ _⟩
    case round =>
      obtain ⟨k, hk', rfl, rfl, hBr⟩ := hrel
      obtain ⟨x0, x1⟩ := hSS _ hBr
      have hBw := hB.trans (hBr.mono hB.size)
      have hBrs := hBr.size
      have hob := hbound k
      by_cases hkl : k < xs.length
      · obtain ⟨u, hu⟩ : ∃ u, xs[k]? = some u := ⟨_, List.getElem?_eq_getElem hkl⟩
        obtain ⟨bb, off, A1, c1, rfl, ha⟩ := (hA.on hBw).get hu
        have e0 := ha.c0
        have e1 := ha.c1
        have hbb := ha.hb
        have hmem := List.mem_of_getElem? hu
        have hszu : u.size ≤ 1000 := by have := size_mem hmem; simp only [Tm.size] at hsz; omega
        have htu := txt_size hl u (hk u hmem)
        have hsub : Hid (Args wr.drew wr.drew.heap.size A1 u.args) := ha.sub.drewN 1
        have hsy : Hid (Syms wr.drew wr.drew.heap.size (some ⟨sb, so, none⟩) l.length l) := (HS.out.on hBw).drewN 1
        have hu64 := ha.hi
        have htk : txtL l (xs.take (k + 1)) = txtL l (xs.take k) ++ [txtT l u] := by rw [txtL_map, List.take_add_one, hu, List.map_append, ← txtL_map]; rfl
        have hlk : (txtL l (xs.take k)).length = k := by rw [txtL_map]; simp; omega
        have hkeep : ∀ w2, Below wr.drew.heap.size wr.drew w2 → w2.cell? ⟨w.heap.size, 0, none⟩ = some (.slice (some ⟨sb, so, none⟩) l.length cs) ∧ w2.cell? ⟨w.heap.size + 1, 1, none⟩ = some (.slice (some ⟨bb, off, none⟩) xs.length c) ∧ w2.cell? ⟨bb, off + k * 2, none⟩ = some (.int .i64 u.fn) ∧ w2.cell? ⟨bb, off + k * 2 + 1, none⟩ = some (.slice A1 u.args.length c1) := fun w2 h => by
          have h' : Below wr.heap.size wr w2 := ⟨h.os, h.tape, h.output, h.size, h.block⟩
          exact ⟨cell_on h' (by omega) x0, cell_on h' (by omega) x1, cell_on h' hbb e0, cell_on h' hbb e1⟩
        clear hu ha
        by_cases hk0z : k = 0
        · subst hk0z
          have hH : Hid (openT s.name (txtL l (xs.take (0 + 1))) = s.name ++ ⟨#[40]⟩ ++ txtT l u) := by rw [htk, List.take_zero]; exact open_zero _ _
          have hnil : openT s.name (txtL l (xs.take 0)) = s.name := by simp [txtL, openT]
          rw [hnil]
          have hsm : ¬ ((s.name ++ (⟨#[40]⟩ : ByteArray)).size + (txtT l u).size > 9223372036854775807) := by
            rw [ByteArray.size_append]; show ¬ (s.name.size + 1 + _ > _); omega
          have hsm0 : ¬ (s.name.size + (⟨#[40]⟩ : ByteArray).size > 9223372036854775807) := by show ¬ (_ + 1 > _); omega
          have hsm2 : ¬ (s.name.size + (⟨#[40]⟩ : ByteArray).size + (txtT l u).size > 9223372036854775807) := by show ¬ (_ + 1 + _ > _); omega
          have hsm3 : ¬ (s.name.size + 1 + (txtT l u).size > 9223372036854775807) := by omega
          clear htk
          simp only [Nat.zero_mul, Nat.add_zero] at e0 e1 hkeep
          go_wp2
          go_region_held3 (fun w' => w'.cell? ⟨w.heap.size, 0, none⟩ = some (.slice (some ⟨sb, so, none⟩) l.length cs) ∧ w'.cell? ⟨w.heap.size + 1, 1, none⟩ = some (.slice (some ⟨bb, off, none⟩) xs.length c) ∧ w'.cell? ⟨bb, off, none⟩ = some (.int .i64 u.fn) ∧ w'.cell? ⟨bb, off + 1, none⟩ = some (.slice A1 u.args.length c1))
            (first | exact ⟨x0, x1, e0, e1⟩ | exact hkeep _ hb2 | fail)
            (first | (go_at_call 34; refine (ih u hmem (hk u hmem) hszu (some ⟨sb, so, none⟩) A1 cs c1 wr.drew hu64 hsy.out hsub.out).mono ?_; rintro e w2 ⟨rfl, hb2⟩) | fail)
          go_wp2
          refine ⟨⟨1, by omega, rfl, ?_, hBr.trans (Below.mono (B := wr.heap.size) ⟨hb2.os, hb2.tape, hb2.output, hb2.size, hb2.block⟩ hBrs)⟩, by simp [intOf]; omega⟩
          rw [hH.out]
        · have hH : Hid (openT s.name (txtL l (xs.take (k + 1))) = openT s.name (txtL l (xs.take k)) ++ ⟨#[44]⟩ ++ txtT l u) := by rw [htk]; exact open_more _ _ _ (by omega)
          have hsm : ¬ ((openT s.name (txtL l (xs.take k)) ++ (⟨#[44]⟩ : ByteArray)).size + (txtT l u).size > 9223372036854775807) := by
            rw [ByteArray.size_append]; show ¬ (_ + 1 + _ > _); omega
          have hsm0 : ¬ ((openT s.name (txtL l (xs.take k))).size + (⟨#[44]⟩ : ByteArray).size > 9223372036854775807) := by show ¬ (_ + 1 > _); omega
          have hsm2 : ¬ ((openT s.name (txtL l (xs.take k))).size + (⟨#[44]⟩ : ByteArray).size + (txtT l u).size > 9223372036854775807) := by show ¬ (_ + 1 + _ > _); omega
          have hsm3 : ¬ ((openT s.name (txtL l (xs.take k))).size + 1 + (txtT l u).size > 9223372036854775807) := by omega
          have hkn : ¬ ((k : Int) = 0) := by omega
          clear htk
          go_wp2
          go_region_held3 (fun w' => w'.cell? ⟨w.heap.size, 0, none⟩ = some (.slice (some ⟨sb, so, none⟩) l.length cs) ∧ w'.cell? ⟨w.heap.size + 1, 1, none⟩ = some (.slice (some ⟨bb, off, none⟩) xs.length c) ∧ w'.cell? ⟨bb, off + k * 2, none⟩ = some (.int .i64 u.fn) ∧ w'.cell? ⟨bb, off + k * 2 + 1, none⟩ = some (.slice A1 u.args.length c1))
            (first | exact ⟨x0, x1, e0, e1⟩ | exact hkeep _ hb2 | fail)
            (first | (go_at_call 34; refine (ih u hmem (hk u hmem) hszu (some ⟨sb, so, none⟩) A1 cs c1 wr.drew hu64 hsy.out hsub.out).mono ?_; rintro e w2 ⟨rfl, hb2⟩) | fail)
          go_wp2
          refine ⟨⟨k + 1, by omega, by go_num, ?_, hBr.trans (Below.mono (B := wr.heap.size) ⟨hb2.os, hb2.tape, hb2.output, hb2.size, hb2.block⟩ hBrs)⟩, by simp [intOf]; omega⟩
          rw [hH.out]
      · obtain rfl : k = xs.length := by omega
        rw [List.take_length] at hob ⊢
        have hlx : (txtL l xs).length = xs.length := by rw [txtL_map]; simp
        have hap := app_open s.name (txtL l xs)
        by_cases hz : xs.length = 0
        · have hnil : openT s.name (txtL l xs) = s.name := if_pos (by omega)
          rw [if_pos (by omega)] at hap
          have Ha := Lib.hid hap
          rw [hnil]
          have hz' : ¬ ((xs.length : Int) > 0) := by omega
          clear hap
          go_wp2
          go_ret
          exact ⟨by rw [Ht.out, Ha.out]; rfl, hBw⟩
        · rw [if_neg (by omega)] at hap
          have Ha := Lib.hid hap
          have hz' : ((xs.length : Int) > 0) := by omega
          have hsm0 : ¬ ((openT s.name (txtL l xs)).size + (⟨#[41]⟩ : ByteArray).size > 9223372036854775807) := by show ¬ (_ + 1 > _); omega
          clear hap
          go_wp2
          go_ret
          exact ⟨by rw [Ht.out, Ha.out]; rfl, hBw⟩

set_option maxHeartbeats 2000000 in
theorem ref2Text_any (l : List Sm) (t : Tm) (As A : Option Addr) (n cs c : Nat) (w : World) (hsz : t.size ≤ 4611686018427387904) (hS : Syms w w.heap.size As n l) (hn : n * 32 ≤ 140737488351232) (hf : I64 t.fn) (hA : Args w w.heap.size A t.args) :
    Calls Tryd.prog 10 #[.agg #[.slice As n cs], .agg #[.int .i64 t.fn, .slice A t.args.length c]] w fun e w' => e = .returned (.tuple #[.string (textS l t), .int .i64 (chkT l t)]) ∧ Below w.heap.size w w' := by
  obtain rfl := hS.len
  have hl64 : l.length ≤ 9223372036854775807 := by omega
  obtain ⟨p0, p1⟩ := heap2 w (.cells #[.slice As l.length cs] 24) (.cells #[.int .i64 t.fn, .slice A t.args.length c] 27)
  obtain ⟨W, hW⟩ : ∃ W, ((w.alloc (.cells #[.slice As l.length cs] 24)).alloc (.cells #[.int .i64 t.fn, .slice A t.args.length c] 27)) = W := ⟨_, rfl⟩
  have hB : Below w.heap.size w W := by rw [← hW]; exact ((Below.refl _ _).alloc (Nat.le_refl _) _).alloc (by simp) _
  rw [hW] at p0 p1
  have hWs : w.heap.size + 1 < W.heap.size := (Array.getElem?_eq_some_iff.1 p1).1
  have HW := Lib.hid hW
  have hS' := Lib.hid (hS.on hB)
  have hA' := Lib.hid (hA.on hB)
  clear hW hS hA
  by_cases h0 : chkT l t = 0
  · have hts : Hid (textS l t = txtT l t) := if_pos h0
    obtain ⟨hc, hfit⟩ := chk_zero h0
    have hs300 := (fit_size l t 1 300 hfit).2
    have htx := words_any l (chk_names hc) hl64 t ⟨1, 300, hfit⟩ (by omega)
    clear hc hfit
    go_enter Tryd.func10, Tryd.ntmps10
    go_wp2_with (first
      | (go_at_call 12
         go_must (
         rw [HW.out]
         refine (ref2Check_any l t As A l.length cs c W hsz hS'.out hn hf hA'.out).mono ?_
         rintro e w1 ⟨rfl, hb1⟩
         rw [h0]
         have x0 := (cells_one ((hb1.block _ (by omega)).trans p0)).1
         obtain ⟨x1, x2, _, _⟩ := cells_two ((hb1.block _ hWs).trans p1)))
      | (go_at_call 34
         go_must (
         refine (htx As A cs c w1 hf (hS'.out.on hb1) (hA'.out.on hb1)).mono ?_
         rintro e w2 ⟨rfl, hb2⟩))
      | fail)
    refine bodyPost_ret (v := .tuple #[.string (txtT l t), .int .i64 0]) (by simp [results, Tryd.results10, go_sem]) rfl ⟨by rw [hts.out, h0], hB.trans ((bl_step hb1 hb2).mono hB.size)⟩
  · have hts : Hid (textS l t = ByteArray.empty) := if_neg h0
    have h0' := chk_two h0
    go_enter Tryd.func10, Tryd.ntmps10
    go_wp2_with (first
      | (go_at_call 12
         go_must (
         rw [HW.out]
         refine (ref2Check_any l t As A l.length cs c W hsz hS'.out hn hf hA'.out).mono ?_
         rintro e w1 ⟨rfl, hb1⟩
         rw [h0']))
      | fail)
    refine bodyPost_ret (v := .tuple #[.string ByteArray.empty, .int .i64 2]) (by simp [results, Tryd.results10, go_sem]; try rfl) rfl ⟨by rw [hts.out, h0'], hB.trans (hb1.mono hB.size)⟩
end Go.Proofs.YtkgikjjngbifjaaDoor
