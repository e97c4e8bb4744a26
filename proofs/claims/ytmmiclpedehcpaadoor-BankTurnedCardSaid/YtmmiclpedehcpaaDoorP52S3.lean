import Derived.Test.YtmmiclpedehcpaaDoorP52S2
import Derived.BigQuiet
import Derived.Test.YtmmiclpedehcpaaDoorP52S1
import Derived.ProofKit
import Derived.SizedLaws
import Derived.Deep.Slices
import Derived.Carry
import Derived.Test.YtmmiclpedehcpaaDoorRows
import Derived.Below
import Derived.Test.YtmmiclpedehcpaaDoorCards
import Derived.WalkKit
import Derived.OpenShut
import Derived.Deep.DeepHandedRow
import Derived.Lib.LaidTab
import Derived.MakeChecks
namespace Go.Proofs.YtmmiclpedehcpaaDoor
open Go Go.RowKit Go.Shelf Go.Maps
set_option maxRecDepth 100000
structure TwI (W : World) (bxa bxb : Nat) (sy : List Sm) (Aa Ab : Option Addr) (n ca cb : Nat) (wr : World) (ta tb : Nat → Nat) (pa pb : BPl) (tsa tsb : List Tm) : Prop where
  a : WkI W bxa sy Aa n ca wr ta pa tsa
  b : WkI W bxb sy Ab n cb wr tb pb tsb
  d : ∀ g, ta g ≠ 0 → tb g = 0
section
variable {W wr wy : World} {bxa bxb n ca cb N : Nat} {sy : List Sm} {Aa Ab : Option Addr} {ta tb ta' : Nat → Nat} {pa pb pa' : BPl} {tsa tsb tsa' : List Tm}
theorem TwI.swap (h : TwI W bxa bxb sy Aa Ab n ca cb wr ta tb pa pb tsa tsb) : TwI W bxb bxa sy Ab Aa n cb ca wr tb ta pb pa tsb tsa :=
  ⟨h.b, h.a, fun g e => by
    rcases Nat.eq_zero_or_pos (ta g) with h0 | h0
    · exact h0
    · exact absurd (h.d g (by omega)) e⟩
theorem TwI.on (h : TwI W bxa bxb sy Aa Ab n ca cb wr ta tb pa pb tsa tsb) (hb : Below wr.heap.size wr wy) : TwI W bxa bxb sy Aa Ab n ca cb wy ta tb pa pb tsa tsb := ⟨h.a.on hb, h.b.on hb, h.d⟩
theorem TwI.grew (h : TwI W bxa bxb sy Aa Ab n ca cb wr ta tb pa pb tsa tsb) (ht : 0 < W.heap.size) (hk : WkI W bxa sy Aa n ca wy ta' pa' tsa') (hg : Grew wr wy ta ta' pa pa' N) : TwI W bxa bxb sy Aa Ab n ca cb wy ta' tb pa' pb tsa' tsb := by
  refine ⟨hk, wk_tag0 h.b hg.k.size (hg.k.below h.a.low.size fun g e e2 => e2 (h.a.z g e)) (fun g hl e => hg.k.block hl fun e2 => e (h.d g e2)) ht, fun g e => ?_⟩
  rcases Nat.lt_or_ge g wr.heap.size with h1 | h1
  · exact h.d g (by rw [← hg.t g h1]; exact e)
  · exact h.b.b.hi g h1
theorem TwI.put (h : TwI W bxa bxb sy Aa Ab n ca cb wr ta tb pa pb tsa tsb) (ht : 0 < W.heap.size) (hn : n * 32 ≤ 140737488351232) {t : Tm} {At : Option Addr} {ct : Nat} (hts : tsa.length + 300 ≤ 2147483648) (hf : I64 t.fn) (hA : ArgsN wr (· < W.heap.size) At t.args) :
    Calls Tryd.prog 12 #[.pointer (some ⟨bxa, 0, none⟩), .agg #[.int .i64 t.fn, .slice At t.args.length ct]] wr fun e w' => ∃ pa' ta' v, e = .returned v ∧ TwI W bxa bxb sy Aa Ab n ca cb w' ta' tb pa' pb (bputT sy tsa t) tsb := by
  refine (h.a.put hn hts hf hA (fun g e => ⟨Nat.lt_of_lt_of_le e h.a.low.size, h.a.z g e⟩)).mono ?_
  rintro e w' ⟨p', tag', rfl, hk, hg⟩
  exact ⟨p', tag', _, rfl, h.grew ht hk hg⟩
theorem TwI.get (h : TwI W bxa bxb sy Aa Ab n ca cb wr ta tb pa pb tsa tsb) (hs : ∀ t ∈ tsa, t.size ≤ 300) {i : Nat} {t : Tm} (ht : tsa[i]? = some t) : Calls Tryd.prog 21 #[.pointer (some ⟨bxa, 0, none⟩), .int .i64 (i : Int)] wr fun e w' => ∃ A' c', e = .returned (.tuple #[.agg #[.int .i64 t.fn, .slice A' t.args.length c'], .int .i64 0]) ∧ ArgsN w' (fun g => wr.heap.size ≤ g ∧ g < w'.heap.size) A' t.args ∧ Below wr.heap.size wr w' := by
  have := bGet_at h.a.b (fun u hu => by have := hs u hu; omega) (i : Int)
  rw [h.a.bx] at this
  refine this.mono ?_
  rintro e w' ⟨hb, he⟩
  have hk : bkAt tsa (i : Int) = some t := by unfold bkAt; rw [if_pos (by omega), Int.toNat_natCast]; exact ht
  rw [hk] at he
  obtain ⟨A', c', rfl, hA⟩ := he
  exact ⟨A', c', rfl, hA, hb⟩
theorem TwI.find (h : TwI W bxa bxb sy Aa Ab n ca cb wr ta tb pa pb tsa tsb) (htt : 0 < W.heap.size) (hn : n * 32 ≤ 140737488351232) (hts : tsb.length + 300 ≤ 2147483648) {t : Tm} (ht : t ∈ tsb) (hc : chkT sy t = 0) {At : Option Addr} {ct : Nat} {N : Nat → Prop} (hf : I64 t.fn) (hA : ArgsN wr N At t.args) (hN : ∀ g, N g → g < wr.heap.size ∧ tb g = 0) :
    Calls Tryd.prog 16 #[.pointer (some ⟨bxb, 0, none⟩), .agg #[.int .i64 t.fn, .slice At t.args.length ct]] wr fun e w' => ∃ pb' tb', e = .returned (.tuple #[.int .i64 ((idxT tsb t : Nat) : Int), .bool true]) ∧ TwI W bxa bxb sy Aa Ab n ca cb w' ta tb' pa pb' tsa tsb := by
  have := bFind_any (c := ct) h.b.b h.b.t hn hts hf hA hN
  rw [h.b.bx] at this
  refine this.mono ?_
  rintro e w' ⟨p', tag', rfl, hB, hG⟩
  have hfo : bfindO sy tsb t = true := by unfold bfindO; rw [decide_eq_true hc, decide_eq_true (idxT_lt.2 ht)]; rfl
  exact ⟨p', tag', by rw [hfo]; rfl, (h.swap.grew htt (h.b.grew hB hG) hG).swap⟩
theorem WkI.argsL {bx c : Nat} {A : Option Addr} {tag : Nat → Nat} {p : BPl} {ts : List Tm} (h : WkI W bx sy A n c wr tag p ts) (hs : ∀ t ∈ ts, t.size ≤ 300) (hts : ts.length ≤ 2147483648) {i : Nat} {t : Tm} (ht : ts[i]? = some t) : Calls Tryd.prog 22 #[.pointer (some ⟨bx, 0, none⟩), .int .i64 (i : Int)] wr fun e w' => ∃ A' c', e = .returned (.slice A' t.args.length c') ∧ Below wr.heap.size wr w' := by
  have hl : t.args.length ≤ 1048576 := by
    have h1 := sizes_len t.args
    have h2 : t.size = sizes t.args + 1 := by cases t; simp [Tm.size, Tm.args]
    have h3 := hs t (List.mem_of_getElem? ht)
    omega
  have := bArgs_any h.b ht hts hl
  rw [h.bx] at this
  refine this.mono ?_
  rintro e w' ⟨v, rfl, hI, hb⟩
  obtain ⟨A', c', rfl⟩ := row_slice hI.row
  have hln : ((numsT ts t.args).map Int.ofNat).length = t.args.length := by simp [numsT]
  exact ⟨A', c', by rw [hln], hb⟩
theorem WkI.usersL {bx c : Nat} {A : Option Addr} {tag : Nat → Nat} {p : BPl} {ts : List Tm} (h : WkI W bx sy A n c wr tag p ts) (hts : ts.length ≤ 2147483648) {i : Nat} (hi : i < ts.length) : Calls Tryd.prog 25 #[.pointer (some ⟨bx, 0, none⟩), .int .i64 (i : Int), .int .i64 (-1)] wr fun e w' => ∃ A' c', e = .returned (.slice A' (usT ts i).length c') ∧ Below wr.heap.size wr w' := by
  have hu : usB ts (i : Int) = usT ts i := by
    unfold usB bkAt
    rw [if_pos (by omega), Int.toNat_natCast, List.getElem?_eq_getElem hi]
  have := users_any (.pointer (some ⟨bx, 0, none⟩)) (i : Int) (-1) ((usT ts i).map Int.ofNat) wr (fun z hz => by
    obtain ⟨k, hk, rfl⟩ := List.mem_map.1 hz
    have := usT_lt hk
    exact (show I64 (k : Int) from ⟨by omega, by omega⟩)) (by rw [List.length_map]; have := usT_len ts i; omega) (fun x hx => by
    have := bUsers_any (h.on hx).b hts (i : Int)
    rw [(h.on hx).bx, hu] at this
    exact this)
  refine this.mono ?_
  rintro e w' ⟨v, rfl, hI, hb⟩
  have e1 : usO ((usT ts i).map Int.ofNat) (-1) = (usT ts i).map Int.ofNat := by unfold usO; rw [if_neg (by omega)]
  rw [e1] at hI
  obtain ⟨A', c', rfl⟩ := row_slice hI.row
  exact ⟨A', c', by rw [List.length_map], hb⟩
end
end Go.Proofs.YtmmiclpedehcpaaDoor
namespace Go.Proofs.YtmmiclpedehcpaaDoor
open Go Go.RowKit Go.Shelf Go.Maps
set_option maxRecDepth 100000
theorem bidx_of (which : Int) (n : Nat) (hn : 0 < n) (hn2 : n ≤ 1048576) : ∃ j : Nat, (wrap64 (which.tmod (n : Int) + (n : Int))).tmod (n : Int) = (j : Int) ∧ j < n := by
  have h1 : which.tmod (n : Int) < (n : Int) := Int.tmod_lt_of_pos _ (by omega)
  have h2 : -(n : Int) < which.tmod (n : Int) := by
    have := Int.tmod_lt_of_pos (-which) (show (0 : Int) < (n : Int) by omega)
    rw [Int.neg_tmod] at this
    omega
  generalize which.tmod (n : Int) = m at h1 h2
  have h3 : wrap64 (m + (n : Int)) = m + (n : Int) := by unfold wrap64; omega
  rw [h3, Int.tmod_eq_emod_of_nonneg (by omega)]
  refine ⟨((m + (n : Int)) % (n : Int)).toNat, ?_, ?_⟩
  · rw [Int.toNat_of_nonneg (Int.emod_nonneg _ (by omega))]
  · have := Int.emod_lt_of_pos (m + (n : Int)) (show (0 : Int) < (n : Int) by omega)
    have := Int.emod_nonneg (m + (n : Int)) (show (n : Int) ≠ 0 by omega)
    omega
theorem putL_len {sy : List Sm} : ∀ (l : List Tm) {ts : List Tm}, (putL sy ts l).length ≤ ts.length + 300 * l.length
  | [], ts => by simp [putL]
  | x :: l, ts => by
    have ih := putL_len (sy := sy) l (ts := bputT sy ts x)
    obtain ⟨us, e, h⟩ := bputT_pre sy ts x
    unfold putL at ih ⊢
    rw [List.foldl_cons]
    rw [e, List.length_append] at ih
    rw [List.length_cons]
    rw [e]; omega
theorem sizB_at {ts : List Tm} {i : Nat} {t : Tm} (h : ts[i]? = some t) : sizB ts (i : Int) = (t.size : Int) := by
  unfold sizB; rw [if_pos (by omega), Int.toNat_natCast, h]
theorem gndB_at {ts : List Tm} {i : Nat} {t : Tm} (h : ts[i]? = some t) : gndB ts (i : Int) = grB t := by
  unfold gndB; rw [if_pos (by omega), Int.toNat_natCast, h]
theorem putL_small {sy : List Sm} {l : List Tm} : ∀ u ∈ putL sy [] l, u.size ≤ 300 := fun _ hu => chk_300 (putL_chk hu)
set_option maxHeartbeats 16000000 in
theorem BankTurned_any (sy : List Sm) (As : Option Addr) (n cs : Nat) (l : List Tm) (Al : Option Addr) (cl : Nat) (turn : Int) (w : World) (hS : Syms w w.heap.size As n sy) (hn : n * 32 ≤ 140737488351232) (ht : tru w) (hA : Args w w.heap.size Al l) :
    Calls Tryd.prog 6 #[.agg #[.slice As n cs], .slice Al l.length cl, .int .i64 turn] w fun e w' => e = .returned (.bool true) ∧ Below w.heap.size w w' := by
  obtain ⟨W, hW⟩ : ∃ W, w.alloc (.cells #[.slice As n cs] 24) = W := ⟨_, rfl⟩
  have hB : Below w.heap.size w W := by rw [← hW]; exact (Below.refl _ _).alloc (Nat.le_refl _) _
  have q0 := heap_alloc_new w (.cells #[.slice As n cs] 24)
  rw [hW] at q0
  have hql := (Array.getElem?_eq_some_iff.1 q0).1
  have x0 := (cells_one q0).1
  have HX : Hid (∀ x, Below W.heap.size W x → x.cell? ⟨w.heap.size, 0, none⟩ = some (.slice As n cs)) := Lib.hid fun x hx => (cells_one ((hx.block _ hql).trans q0)).1
  have HW := Lib.hid hW
  have htl := ht.2.2.2
  have HWk : Hid (∀ x, Below w.heap.size w x → Calls Tryd.prog 7 #[] x fun e w' => e = .returned (.bool true) ∧ Below x.heap.size x w') := Lib.hid fun x hx => bwakes_any x (tru_below ht hx)
  by_cases hc : chkT sy (.node 0 []) = 0
  case neg =>
    have HN : Hid (∀ x, Below w.heap.size w x → Calls Tryd.prog 8 #[.agg #[.slice As n cs]] x fun e w' => e = .returned (.tuple #[.pointer none, .int .i64 (chkT sy (.node 0 []))]) ∧ Below x.heap.size x w') := Lib.hid fun x hx => bNew_no (hS.on hx) hn (tru_below ht hx) hc
    obtain ⟨ck, hck⟩ : ∃ ck, chkT sy (.node 0 []) = ck := ⟨_, rfl⟩
    rw [hck] at hc HN
    have g0 : (ck != 0) = true := by simpa using hc
    have HN1 := Lib.hid (HN.out W hB)
    clear hc hck hS ht hA hW q0
    go_enter Tryd.func6, Tryd.ntmps6
    go_upto_region 1 with (fail)
    rw [HW.out]
    go_wp2_with (first
      | (go_at_call 8; (with_reducible refine HN1.out.mono ?_); go_must (rintro e w1 ⟨rfl, hb1⟩; have hb1' := hB.trans (hb1.mono hB.size); have x1 := HX.out w1 hb1; have HN2 := Lib.hid (HN.out w1 hb1')))
      | (go_at_call 8; (with_reducible refine HN2.out.mono ?_); go_must (rintro e w2 ⟨rfl, hb2⟩; have hb2' := hb1'.trans (hb2.mono hb1'.size); have HK := Lib.hid (HWk.out w2 hb2')))
      | (go_at_call 7; (with_reducible refine HK.out.mono ?_); go_must (rintro e w3 ⟨rfl, hb3⟩))
      | fail)
    go_ret
    exact ⟨rfl, hb2'.trans (hb3.mono hb2'.size)⟩
  case pos =>
    have HN : Hid (∀ x, Below w.heap.size w x → Calls Tryd.prog 8 #[.agg #[.slice As n cs]] x fun e w' => ∃ (b : Nat) (A : Option Addr) (c : Nat) (tag : Nat → Nat), e = .returned (.tuple #[.pointer (some ⟨(newP b).bx, 0, none⟩), .int .i64 0]) ∧ WkI x (newP b).bx sy A n c w' tag (newP b) [] ∧ Below x.heap.size x w') := Lib.hid fun x hx => by
      refine (bNew_yes (hS.on hx) hn (tru_below ht hx) hc).mono ?_
      rintro e w' ⟨b, A, c, tag, rfl, h1, h2, hb⟩
      exact ⟨b, A, c, tag, rfl, ⟨h1, ⟨tru_below ht (hx.trans (hb.mono hx.size)), h2 _ (Nat.lt_of_lt_of_le htl hx.size)⟩, hb, h2, rfl⟩, hb⟩
    have HN1 := Lib.hid (HN.out W hB)
    have HA := Lib.hid hA.toN
    clear hc hS ht hA hW q0
    by_cases hl30 : l.length ≤ 30 ∧ 0 < l.length
    case neg =>
      rcases Nat.eq_zero_or_pos l.length with hl0 | hl0
      · have hl : l = [] := List.eq_nil_of_length_eq_zero hl0
        subst hl
        clear hl30 hl0
        go_enter Tryd.func6, Tryd.ntmps6
        go_upto_region 1 with (fail)
        rw [HW.out]
        go_wp2_with (first
          | (go_at_call 8; (with_reducible refine HN1.out.mono ?_); go_must (rintro e w1 ⟨b1, A1, c1, tag1, rfl, _, hb1⟩; have hb1' := hB.trans (hb1.mono hB.size); have x1 := HX.out w1 hb1; have HN2 := Lib.hid (HN.out w1 hb1')))
          | (go_at_call 8; (with_reducible refine HN2.out.mono ?_); go_must (rintro e w2 ⟨b2, A2, c2, tag2, rfl, _, hb2⟩; have hb2' := hb1'.trans (hb2.mono hb1'.size); have HK := Lib.hid (HWk.out w2 hb2')))
          | (go_at_call 7; (with_reducible refine HK.out.mono ?_); go_must (rintro e w3 ⟨rfl, hb3⟩))
          | fail)
        go_ret
        exact ⟨rfl, hb2'.trans (hb3.mono hb2'.size)⟩
      · have g2 : (30 : Int) < (l.length : Int) := by omega
        have g1 : decide ((30 : Int) < (l.length : Int)) = true := decide_eq_true g2
        clear hl30 hl0
        go_enter Tryd.func6, Tryd.ntmps6
        go_upto_region 1 with (fail)
        rw [HW.out]
        go_wp2_with (first
          | (go_at_call 8; (with_reducible refine HN1.out.mono ?_); go_must (rintro e w1 ⟨b1, A1, c1, tag1, rfl, _, hb1⟩; have hb1' := hB.trans (hb1.mono hB.size); have x1 := HX.out w1 hb1; have HN2 := Lib.hid (HN.out w1 hb1')))
          | (go_at_call 8; (with_reducible refine HN2.out.mono ?_); go_must (rintro e w2 ⟨b2, A2, c2, tag2, rfl, _, hb2⟩; have hb2' := hb1'.trans (hb2.mono hb1'.size); have HK := Lib.hid (HWk.out w2 hb2')))
          | (go_at_call 7; (with_reducible refine HK.out.mono ?_); go_must (rintro e w3 ⟨rfl, hb3⟩))
          | fail)
        go_ret
        exact ⟨rfl, hb2'.trans (hb3.mono hb2'.size)⟩
    case pos =>
      obtain ⟨hl30, hl0⟩ := hl30
      have g2 : ¬ (30 : Int) < (l.length : Int) := by omega
      have g1 : decide ((30 : Int) < (l.length : Int)) = false := decide_eq_false g2
      have g3 : ¬ (l.length : Int) = 0 := by omega
      have g4 : decide ((l.length : Int) = 0) = false := decide_eq_false g3
      have g7 : ((l.length : Int) == 0) = false := beq_eq_false_iff_ne.2 g3
      have g5 : ¬ l.length = 0 := by omega
      have g6 : ¬ l = [] := fun e => g5 (by rw [e]; rfl)
      obtain ⟨k, hk, hkl⟩ := bidx_of turn l.length hl0 (by omega)
      go_enter Tryd.func6, Tryd.ntmps6
      go_upto_region 1 with (fail)
      rw [HW.out]
      go_wp2_with (first
        | (go_at_call 8; (with_reducible refine HN1.out.mono ?_); go_must (rintro e w1 ⟨b1, A1, c1, tag1, rfl, hI1, hb1⟩; have hb1' := hB.trans (hb1.mono hB.size); have x1 := HX.out w1 hb1; have HN2 := Lib.hid (HN.out w1 hb1'); have HI1 := Lib.hid hI1; clear hI1))
        | (go_at_call 8; (with_reducible refine HN2.out.mono ?_); go_must (rintro e w2 ⟨b2, A2, c2, tag2, rfl, hI2, hb2⟩; have hb2' := hb1'.trans (hb2.mono hb1'.size); have HI2 := Lib.hid hI2; clear hI2))
        | fail)
      have HI : Hid (TwI w (newP b1).bx (newP b2).bx sy A1 A2 n c1 c2 w2 tag1 tag2 (newP b1) (newP b2) [] []) := Lib.hid (by
        have h1 := HI1.out.on hb2
        have h2 := HI2.out
        have hWs := hB.size
        have h1s := hb1.size
        refine ⟨⟨h1.b, h1.t, hB.trans (h1.low.mono hWs), fun g e => h1.z g (by omega), rfl⟩, ⟨h2.b, h2.t, hb1'.trans (h2.low.mono hb1'.size), fun g e => h2.z g (by omega), rfl⟩, fun g e => ?_⟩
        rcases Nat.lt_or_ge g w1.heap.size with h3 | h3
        · exact h2.z g h3
        · exact absurd (HI1.out.b.hi g h3) e)
      obtain ⟨pa, hpa⟩ : ∃ pa, newP b1 = pa := ⟨_, rfl⟩
      obtain ⟨pb, hpb⟩ : ∃ pb, newP b2 = pb := ⟨_, rfl⟩
      rw [hpa, hpb] at HI ⊢
      obtain ⟨xa, hxa⟩ : ∃ xa, pa.bx = xa := ⟨_, rfl⟩
      obtain ⟨xb, hxb⟩ : ∃ xb, pb.bx = xb := ⟨_, rfl⟩
      rw [hxa, hxb] at HI ⊢
      clear hpa hpb hxa hxb HI1 HI2 HN HN1 HN2 hk x1 hb1 hb2 hb1' hb2' g1 g2 g3 g4 g5 g6 g7
      go_loopw [11] (fun i wr => ∃ (j : Nat) (ta tb : Nat → Nat) (pa pb : BPl), j ≤ l.length ∧ i = .int .i64 (j : Int) ∧ Hid (TwI w xa xb sy A1 A2 n c1 c2 wr ta tb pa pb (putL sy [] (l.take j)) (putL sy [] ((rotL l k).take j)))) (fun i _ => l.length - (intOf i).toNat)
      case atStart => exact ⟨0, tag1, tag2, pa, pb, Nat.zero_le _, rfl, HI⟩
      case round =>
        obtain ⟨j, ta, tb, pa, pb, hj, rfl, H⟩ := hrel
        by_cases hlt : j < l.length
        case pos =>
          obtain ⟨a, ha⟩ : ∃ a, l[j]? = some a := ⟨_, List.getElem?_eq_getElem hlt⟩
          have hm : (j + k) % l.length < l.length := Nat.mod_lt _ (by omega)
          obtain ⟨a2, ha2⟩ : ∃ a2, l[(j + k) % l.length]? = some a2 := ⟨_, List.getElem?_eq_getElem hm⟩
          have hra : (rotL l k)[j]? = some a2 := (rotL_at hlt).trans ha2
          obtain ⟨bb, off, Aa, ca, hAl, haa⟩ := HA.out.get ha
          obtain ⟨bb', off', Ab, cb, hAl2, hab⟩ := HA.out.get ha2
          rw [hAl] at hAl2
          injection hAl2 with hAl2
          injection hAl2 with h1 h2
          subst h1
          subst h2
          subst hAl
          have e0 := (World.cell?_of_block (H.out.a.low.block _ haa.hb)).trans haa.c0
          have e1 := (World.cell?_of_block (H.out.a.low.block _ haa.hb)).trans haa.c1
          have hP1 := H.out.put (t := a) (ct := ca) htl hn (by have := putL_len (sy := sy) (l.take j) (ts := []); have h9 := List.length_take_le j l; simp at this; omega) haa.hi (haa.sub.keep (w' := wr) fun g e => H.out.a.low.block g e)
          rw [← putL_take ha] at hP1
          have HP1 := Lib.hid hP1
          have HE : Hid (∀ x, Below w.heap.size w x → x.cell? ⟨bb, off + (j + k) % l.length * 2, none⟩ = some (.int .i64 a2.fn) ∧ x.cell? ⟨bb, off + (j + k) % l.length * 2 + 1, none⟩ = some (.slice Ab a2.args.length cb) ∧ ArgsN x (· < w.heap.size) Ab a2.args) := Lib.hid fun x hx => ⟨(World.cell?_of_block (hx.block _ hab.hb)).trans hab.c0, (World.cell?_of_block (hx.block _ hab.hb)).trans hab.c1, hab.sub.keep fun g e => hx.block g e⟩
          have hai := hab.hi
          have Hra := Lib.hid hra
          have hlt2 : (j : Int) < (l.length : Int) := by omega
          have hwr1 : IntKind.i64.wrap ((j : Int) + 1) = (j : Int) + 1 := by rw [IntKind.wrap_i64]; omega
          have hwr2 : wrap64 ((j : Int) + (k : Int)) = (j : Int) + (k : Int) := by unfold wrap64; omega
          have hmod : ((j : Int) + (k : Int)).tmod (l.length : Int) = (((j + k) % l.length : Nat) : Int) := by rw [Int.tmod_eq_emod_of_nonneg (by omega)]; simp
          obtain ⟨q, hq⟩ : ∃ q, (j + k) % l.length = q := ⟨_, rfl⟩
          rw [hq] at hmod HE hm
          have hq2 : (q : Int) < (l.length : Int) := by omega
          have hrl : ((rotL l k).take j).length ≤ 30 := by rw [List.length_take]; omega
          have Hrl := Lib.hid hrl
          clear haa hab hP1 ha ha2 hra H hq hrl
          go_wp2_with (first
            | (go_at_call 12; (with_reducible refine HP1.out.mono ?_); go_must (rintro e w3 ⟨pa3, ta3, v3, rfl, hI3⟩; obtain ⟨f0, f1, f2⟩ := HE.out w3 hI3.a.low; have HP2 := Lib.hid (hI3.swap.put (t := a2) (ct := cb) htl hn (by have := putL_len (sy := sy) ((rotL l k).take j) (ts := []); have := Hrl.out; simp at *; omega) hai f2); rw [← putL_take Hra.out] at HP2; clear f2))
            | (go_at_call 12; (with_reducible refine HP2.out.mono ?_); go_must (rintro e w4 ⟨pb4, tb4, v4, rfl, hI4⟩; have HI4 := Lib.hid hI4.swap; clear hI4))
            | fail)
          go_roundw
          case rel => exact ⟨j + 1, ta3, tb4, pa3, pb4, by omega, by go_num, HI4⟩
          case measure => simp [intOf]; omega
        case neg =>
          obtain rfl : j = l.length := by omega
          have HT := H.out
          rw [List.take_length, List.take_of_length_le (Nat.le_of_eq (rotL_len l k))] at HT
          obtain ⟨tsa, htsa⟩ : ∃ tsa, putL sy [] l = tsa := ⟨_, rfl⟩
          obtain ⟨tsb, htsb⟩ : ∃ tsb, putL sy [] (rotL l k) = tsb := ⟨_, rfl⟩
          have hperm : tsa.Perm tsb := by rw [← htsa, ← htsb]; exact putL_perm (rotL_mem hkl)
          have hla : tsa.length ≤ 9000 := by have := putL_len (sy := sy) l (ts := []); rw [htsa] at this; simp at this; omega
          have hlb := hperm.length_eq
          have hsa : ∀ u ∈ tsa, u.size ≤ 300 := by rw [← htsa]; exact putL_small
          have hsb : ∀ u ∈ tsb, u.size ≤ 300 := by rw [← htsb]; exact putL_small
          have hca : ∀ u ∈ tsa, chkT sy u = 0 := by rw [← htsa]; exact fun u hu => putL_chk hu
          rw [htsa, htsb] at HT
          obtain ⟨m, hm⟩ : ∃ m, tsa.length = m := ⟨_, rfl⟩
          have hmb : tsb.length = m := by omega
          have HTw := Lib.hid HT
          have Hperm := Lib.hid hperm
          have Hm := Lib.hid hm
          have Hmb := Lib.hid hmb
          have HL1 : Hid (∀ x ta pa, WkI w xa sy A1 n c1 x ta pa tsa → Calls Tryd.prog 20 #[.pointer (some ⟨xa, 0, none⟩)] x fun e w' => e = .returned (.int .i64 (m : Int)) ∧ Below x.heap.size x w') := Lib.hid fun x ta pa h => by
            have := bLen_any h.b
            rw [h.bx, Hm.out] at this
            exact this
          have HL2 : Hid (∀ x tb pb, WkI w xb sy A2 n c2 x tb pb tsb → Calls Tryd.prog 20 #[.pointer (some ⟨xb, 0, none⟩)] x fun e w' => e = .returned (.int .i64 (m : Int)) ∧ Below x.heap.size x w') := Lib.hid fun x tb pb h => by
            have := bLen_any h.b
            rw [h.bx, Hmb.out] at this
            exact this
          have hm9 : m ≤ 9000 := by omega
          have HLa := Lib.hid (HL1.out _ _ _ HTw.out.a)
          clear HT hperm hlb hla hm hmb htsa htsb H HI
          go_wp2_with (first
            | (go_at_call 20; (with_reducible refine HLa.out.mono ?_); go_must (rintro e w3 ⟨rfl, hb3⟩; have HT3 := Lib.hid (HTw.out.on hb3); have HLb := Lib.hid (HL2.out _ _ _ HT3.out.b)))
            | (go_at_call 20; (with_reducible refine HLb.out.mono ?_); go_must (rintro e w4 ⟨rfl, hb4⟩; have HT4 := Lib.hid (HT3.out.on hb4)))
            | fail)
          clear HLa HLb HTw HT3
          go_loopw [12] (fun i wr => ∃ (j : Nat) (ta tb : Nat → Nat) (pa pb : BPl), j ≤ m ∧ i = .int .i64 (j : Int) ∧ Hid (TwI w xa xb sy A1 A2 n c1 c2 wr ta tb pa pb tsa tsb)) (fun i _ => m - (intOf i).toNat)
          case atStart => exact ⟨0, ta, tb, pa, pb, Nat.zero_le _, rfl, HT4⟩
          case round =>
            obtain ⟨i3, ta, tb, pa, pb, hi3, rfl, H3⟩ := hrel
            have HLc := Lib.hid (HL1.out _ _ _ H3.out.a)
            by_cases hlt3 : i3 < m
            case pos =>
              obtain ⟨t, hti⟩ : ∃ t, tsa[i3]? = some t := ⟨_, List.getElem?_eq_getElem (by rw [Hm.out]; exact hlt3)⟩
              have hta := List.mem_of_getElem? hti
              have htb := Hperm.out.mem_iff.1 hta
              have hidx : idxT tsa t = i3 := idxT_of H3.out.a.b.ok.nd hti
              have hus := usT_perm H3.out.a.b.ok H3.out.b.b.ok Hperm.out hta
              rw [hidx] at hus
              have htf := H3.out.a.b.i64 t hta
              have hlt3' : (i3 : Int) < (m : Int) := by omega
              have hwr3 : IntKind.i64.wrap ((i3 : Int) + 1) = (i3 : Int) + 1 := by rw [IntKind.wrap_i64]; omega
              have htb2 := idxT_at htb
              have htbl := idxT_lt.2 htb
              obtain ⟨q, hq⟩ : ∃ q, idxT tsb t = q := ⟨_, rfl⟩
              rw [hq] at hus htb2 htbl
              have Hq := Lib.hid hq
              have Hti := Lib.hid hti
              have Htb := Lib.hid htb
              have Htb2 := Lib.hid htb2
              have Hca := Lib.hid (hca t hta)
              have Hus := Lib.hid hus
              have hd : decide ((i3 : Int) < (m : Int)) = true := decide_eq_true hlt3'
              clear hti hta htb hidx hq htb2 hus
              go_wp2_with (first
                | (go_at_call 20; (with_reducible refine HLc.out.mono ?_); go_must (rintro e w5 ⟨rfl, hb5⟩; have HT5 := Lib.hid (H3.out.on hb5); have HG5 := Lib.hid (HT5.out.get hsa Hti.out)))
                | (go_at_call 21; (with_reducible refine HG5.out.mono ?_); go_must (rintro e w6 ⟨A6, c6, rfl, hA6, hb6⟩; have hBx : Below w6.heap.size w6 (w6.alloc (.cells #[.int .i64 t.fn, .slice A6 t.args.length c6] 37)) := (Below.refl _ _).alloc (Nat.le_refl _) _; have h6s := hb6.size; have hB7 := hb6.trans (hBx.mono h6s); obtain ⟨y0, y1, _, _⟩ := cells_two (heap_alloc_new w6 (.cells #[.int .i64 t.fn, .slice A6 t.args.length c6] 37)); have HT7 := Lib.hid (HT5.out.on hB7); have HF7 := Lib.hid (HT7.out.find (ct := c6) htl hn (by rw [Hmb.out]; omega) Htb.out Hca.out htf (hA6.keep fun g e => hBx.block g e.2) (fun g e => ⟨Nat.lt_of_lt_of_le e.2 hBx.size, HT5.out.b.b.hi g e.1⟩)); rw [Hq.out] at HF7; clear hA6))
                | (go_at_call 16; (with_reducible refine HF7.out.mono ?_); go_must (rintro e w8 ⟨pb8, tb8, rfl, hI8⟩; have HT8 := Lib.hid hI8; clear hI8; have HS8 := Lib.hid (HT8.out.a.bx ▸ bSize_any HT8.out.a.b (i3 : Int))))
                | (go_at_call 23; (with_reducible refine HS8.out.mono ?_); go_must (rintro e w9 ⟨rfl, hb9⟩; rw [sizB_at Hti.out]; have HT9 := Lib.hid (HT8.out.on hb9); have HS9 := Lib.hid (HT9.out.b.bx ▸ bSize_any HT9.out.b.b (q : Int))))
                | (go_at_call 23; (with_reducible refine HS9.out.mono ?_); go_must (rintro e w10 ⟨rfl, hb10⟩; rw [sizB_at Htb2.out]; have HT10 := Lib.hid (HT9.out.on hb10); have HG10 := Lib.hid (HT10.out.a.bx ▸ bGround_any HT10.out.a.b (i3 : Int))))
                | (go_at_call 24; (with_reducible refine HG10.out.mono ?_); go_must (rintro e w11 ⟨rfl, hb11⟩; rw [gndB_at Hti.out]; have HT11 := Lib.hid (HT10.out.on hb11); have HG11 := Lib.hid (HT11.out.b.bx ▸ bGround_any HT11.out.b.b (q : Int))))
                | (go_at_call 24; (with_reducible refine HG11.out.mono ?_); go_must (rintro e w12 ⟨rfl, hb12⟩; rw [gndB_at Htb2.out]; have HT12 := Lib.hid (HT11.out.on hb12); have HA12 := Lib.hid (HT12.out.a.argsL hsa (by rw [Hm.out]; omega) Hti.out)))
                | (go_at_call 22; (with_reducible refine HA12.out.mono ?_); go_must (rintro e w13 ⟨A13, c13, rfl, hb13⟩; have HT13 := Lib.hid (HT12.out.on hb13); have HA13 := Lib.hid (HT13.out.b.argsL hsb (by rw [Hmb.out]; omega) Htb2.out)))
                | (go_at_call 22; (with_reducible refine HA13.out.mono ?_); go_must (rintro e w14 ⟨A14, c14, rfl, hb14⟩; have HT14 := Lib.hid (HT13.out.on hb14); have HU14 := Lib.hid (HT14.out.a.usersL (by rw [Hm.out]; omega) (i := i3) (by rw [Hm.out]; exact hlt3)); rw [Hus.out] at HU14))
                | (go_at_call 25; (with_reducible refine HU14.out.mono ?_); go_must (rintro e w15 ⟨A15, c15, rfl, hb15⟩; have HT15 := Lib.hid (HT14.out.on hb15); have HU15 := Lib.hid (HT15.out.b.usersL (by rw [Hmb.out]; omega) htbl)))
                | (go_at_call 25; (with_reducible refine HU15.out.mono ?_); go_must (rintro e w16 ⟨A16, c16, rfl, hb16⟩; have HT16 := Lib.hid (HT15.out.on hb16)))
                | fail)
              go_roundw
              case rel => exact ⟨i3 + 1, ta, tb8, pa, pb8, by omega, by go_num, HT16⟩
              case measure => simp [intOf]; omega
            case neg =>
              obtain rfl : i3 = m := by omega
              have hd : decide ((i3 : Int) < (i3 : Int)) = false := decide_eq_false (by omega)
              go_wp2_with (first
                | (go_at_call 20; (with_reducible refine HLc.out.mono ?_); go_must (rintro e w5 ⟨rfl, hb5⟩; have HL5 := Lib.hid (H3.out.on hb5).a.low; have HK := Lib.hid (HWk.out w5 HL5.out)))
                | (go_at_call 7; (with_reducible refine HK.out.mono ?_); go_must (rintro e w6 ⟨rfl, hb6⟩))
                | fail)
              go_ret
              exact ⟨rfl, HL5.out.trans (hb6.mono HL5.out.size)⟩
end Go.Proofs.YtmmiclpedehcpaaDoor
namespace Go.Proofs.YtmmiclpedehcpaaDoor
open Go.ChangeShapes Go.WideShapes Go.ChangeAt Go.RowKit
section
variable {H : Type} {enc : TypeId × Value → H} {W : World} {base : Nat} {sp : Nat → Bool} {held : Bool}
theorem cellsSym : Tryd.prog.cellsOf 67 = 3 := by kernel_rfl
theorem cellsStr : Tryd.prog.cellsOf 9 = 1 := by kernel_rfl
theorem cellsInt : Tryd.prog.cellsOf 3 = 1 := by kernel_rfl
theorem cellsBool : Tryd.prog.cellsOf 4 = 1 := by kernel_rfl
theorem cellsSlice : Tryd.prog.cellsOf 22 = 1 := by kernel_rfl
theorem cellsSig : Tryd.prog.cellsOf 24 = 1 := by kernel_rfl
theorem bytesSym : Tryd.prog.bytesOf 67 = 32 := by kernel_rfl
set_option maxRecDepth 20000 in
theorem trod_sym {n : Nat} {cs : List Value} {x : DataW H × List MemPlace} (h : DataW.trod enc Tryd.prog W base sp held n 67 cs = some x) :
    ∃ s : Sm, cs = [.string s.name, .int .i64 s.arity, .bool s.pred] ∧ s.Ok ∧ x.1 = .agg [.lit (.string s.name.data.toList), .lit (.int .i64 s.arity), .lit (.bool s.pred)] := by
  obtain ⟨xs, n', _, hx, hlen, hxs, hf⟩ := DataW.trod_struct Tryd.underlying67 h
  rw [cellsSym] at hlen
  match cs, hlen with
  | [c0, c1, c2], _ =>
    have hx3 : xs.length = 3 := by rw [hxs]; rfl
    match xs, hx3 with
    | [x0, x1, x2], _ =>
      have g0 := hf 0 _ rfl
      have g1 := hf 1 _ rfl
      have g2 := hf 2 _ rfl
      simp [cellsStr] at g0
      simp [cellsInt] at g1
      simp [cellsBool] at g2
      obtain ⟨a, ha, ea, hs⟩ := DataW.trod_string Tryd.underlying9 g0
      obtain ⟨b, hb, eb, hw⟩ := DataW.trod_int Tryd.underlying3 g1
      obtain ⟨c, hc, ec⟩ := DataW.trod_bool Tryd.underlying4 g2
      injection ha with ha; injection hb with hb; injection hc with hc
      subst ha; subst hb; subst hc
      have hw' : -9223372036854775808 ≤ b ∧ b ≤ 9223372036854775807 := by
        have := hw
        simp [Lit.wf, IntKind.min, IntKind.max, IntKind.signed, IntKind.bits] at this
        exact this
      exact ⟨⟨a, b, c⟩, rfl, ⟨hs, hw'.1, hw'.2⟩, by rw [hx]; simp [ea, eb, ec]⟩
theorem cell_spot {W : World} {a : Addr} {v : Value} (h : W.cell? a = some v) : a.spot = none := by
  unfold World.cell? at h
  split at h
  · split at h
    · cases h
    · rename_i hs; simpa using hs
  · cases h
theorem trod_syms {n : Nat} {v : Value} {x : DataW H × List MemPlace} (h : DataW.trod enc Tryd.prog W base (fun _ => true) held n 22 [v] = some x) :
    ∃ (A : Option Addr) (len c : Nat) (l : List Sm), v = .slice A len c ∧ Syms W W.heap.size A len l ∧ (len = 0 ∨ ∃ elems spare, x.1 = .slice elems spare ∧ elems.length = len) := by
  rcases Go.Deep.open_slice Tryd.underlying22 h with ⟨hv, _⟩ | ⟨a, len, cap, m, n', D, Pl, hv, hb, hl, hm, hmm, hx, hi⟩
  · injection hv with hv
    subst hv
    exact ⟨none, 0, 0, [], rfl, Syms.nil_ _ _ _, .inl rfl⟩
  · injection hv with hv
    subst hv
    have hcap : m = cap := by simpa using hmm
    subst hcap
    have each : ∀ i, i < len → ∃ s : Sm, s.Ok ∧ W.cell? (a.add (i * 3)) = some (.string s.name) ∧ W.cell? ((a.add (i * 3)).add 1) = some (.int .i64 s.arity) ∧ W.cell? ((a.add (i * 3)).add 2) = some (.bool s.pred) := by
      intro i hlt
      obtain ⟨cs', hc, ht⟩ := hi i (by omega)
      rw [cellsSym] at hc
      obtain ⟨_, _, hat⟩ := World.cells?_some hc
      obtain ⟨s, rfl, hok, _⟩ := trod_sym ht
      refine ⟨s, hok, ?_, hat 1 (by omega), hat 2 (by omega)⟩
      have := hat 0 (by omega)
      simpa [Addr.add] using this
    obtain ⟨q, hq⟩ := Go.Deep.choose_lt each
    refine ⟨some a, len, m, (List.range len).map q, rfl, ⟨by simp, fun s hs => ?_, fun hpos => ?_⟩, .inr ⟨(List.range len).map D, _, by rw [hx], by simp⟩⟩
    · obtain ⟨i, hir, rfl⟩ := List.mem_map.1 hs
      exact (hq i (List.mem_range.1 hir)).1
    · have c0 := (hq 0 hpos).2.1
      simp only [Nat.zero_mul, Addr.add, if_true] at c0
      obtain ⟨blk, off, spot⟩ := a
      obtain rfl : spot = none := cell_spot c0
      refine ⟨blk, off, rfl, ?_, fun i s hs => ?_⟩
      · unfold World.cell? at c0
        rcases Nat.lt_or_ge blk W.heap.size with h1 | h1
        · exact h1
        · simp [Array.getElem?_eq_none h1] at c0
      · have hilt : i < len := by
          have := (List.getElem?_eq_some_iff.1 hs).1
          simpa using this
        have he : q i = s := by
          rw [List.getElem?_map, List.getElem?_range hilt] at hs
          simpa using hs
        obtain ⟨_, h1, h2, h3⟩ := hq i hilt
        rw [he] at h1 h2 h3
        rw [Addr.add_lit] at h1 h2 h3
        rw [Addr.add_lit] at h2 h3
        exact ⟨h1, h2, h3⟩
set_option maxRecDepth 20000 in
theorem open_sig {r : Reach} {b0 : Nat} {v : Value} {d : DataW H} {ps : List MemPlace} (hv : Value.okWide Tryd.prog W r b0 24 v) (h : DataW.Trod enc Tryd.prog W base (fun _ => true) held 24 v d ps) :
    ∃ (A : Option Addr) (len c : Nat) (l : List Sm), v = .agg #[.slice A len c] ∧ Syms W W.heap.size A len l ∧ (len = 0 ∨ ∃ elems spare, d = .agg [.slice elems spare] ∧ elems.length = len) := by
  obtain ⟨cs, rfl, hsz⟩ := okWide_struct Tryd.underlying24 hv
  rw [cellsSig] at hsz
  obtain ⟨fuel, hf⟩ := h
  obtain ⟨xs, n, _, hx, _, hxs, hg⟩ := DataW.trod_struct Tryd.underlying24 hf
  obtain ⟨cl⟩ := cs
  match cl, hsz with
  | [c0], _ =>
    have hx1 : xs.length = 1 := by rw [hxs]; rfl
    match xs, hx1 with
    | [x0], _ =>
      have g0 := hg 0 _ rfl
      simp [Value.cells, cellsSlice] at g0
      obtain ⟨A, len, c, l, rfl, hS, hd⟩ := trod_syms g0
      refine ⟨A, len, c, l, rfl, hS, ?_⟩
      rcases hd with h0 | ⟨elems, spare, he, hl⟩
      · exact .inl h0
      · right
        simp only [Prod.mk.injEq] at hx
        exact ⟨elems, spare, by rw [hx.1]; simp [he], hl⟩
theorem sig_size {ts : List TypeId} {ds : List (DataW H)} (h : (DataW.weightsEach Tryd.prog ts ds).all (· ≤ reachBytes) = true) {j : Nat} {d : DataW H} {len : Nat} (ht : ts[j]? = some 24) (hd : ds[j]? = some d)
    (hl : len = 0 ∨ ∃ elems spare, d = .agg [.slice elems spare] ∧ elems.length = len) : len * 32 ≤ 140737488351232 := by
  rcases hl with rfl | ⟨elems, spare, rfl, rfl⟩
  · omega
  · have hm := DataW.weights_mem_each (P := Tryd.prog) ht hd ((elems.length + spare.length) * Tryd.prog.bytesOf 67) (by
      simp [DataW.weights, Tryd.underlying24, DataW.weightsEach, Tryd.underlying22])
    have := List.all_eq_true.1 h _ hm
    rw [bytesSym] at this
    have h2 : (elems.length + spare.length) * 32 ≤ reachBytes := of_decide_eq_true this
    have h3 : reachBytes = 140737488351232 := by decide +kernel
    omega
end
end Go.Proofs.YtmmiclpedehcpaaDoor
namespace Go.Proofs.YtmmiclpedehcpaaDoor
open Go.ChangeShapes Go.WideShapes Go.ChangeAt Go.RowKit
set_option maxRecDepth 20000
section
variable {H : Type} {enc : TypeId × Value → H} {W : World} {base : Nat} {held : Bool}
theorem cellsTerm : Tryd.prog.cellsOf 37 = 2 := by kernel_rfl
theorem cellsTerms : Tryd.prog.cellsOf 35 = 1 := by kernel_rfl
theorem bulk_all : ∀ (ts : List Tm) (ds : List (DataW H)), ts.length = ds.length → (∀ (i : Nat) (t : Tm) (d : DataW H), ts[i]? = some t → ds[i]? = some d → t.size ≤ Rows.uptoBulk d) → sizes ts ≤ Rows.uptoBulkAll ds
  | [], [], _, _ => by simp [sizes]
  | [], _ :: _, h, _ => by simp at h
  | _ :: _, [], h, _ => by simp at h
  | t :: ts, d :: ds, h, hh => by
    have h1 := hh 0 t d rfl rfl
    have h2 := bulk_all ts ds (by simpa using h) fun i t' d' e1 e2 => hh (i + 1) t' d' (by simpa using e1) (by simpa using e2)
    simp only [sizes, Rows.uptoBulkAll]
    omega
theorem trod_term : ∀ (n : Nat) (cs : List Value) (x : DataW H × List MemPlace), DataW.trod enc Tryd.prog W base (fun _ => true) held n 37 cs = some x →
    ∃ (t : Tm) (A : Option Addr) (c : Nat), cs = [.int .i64 t.fn, .slice A t.args.length c] ∧ I64 t.fn ∧ Args W W.heap.size A t.args ∧ t.size ≤ Rows.uptoBulk x.1 := by
  intro n
  induction n using Nat.strongRecOn with
  | ind n ih =>
    intro cs x h
    obtain ⟨xs, n', rfl, hx, hlen, hxs, hf⟩ := DataW.trod_struct Tryd.underlying37 h
    rw [cellsTerm] at hlen
    match cs, hlen with
    | [c0, c1], _ =>
      have hx2 : xs.length = 2 := by rw [hxs]; rfl
      match xs, hx2 with
      | [x0, x1], _ =>
        have g0 := hf 0 _ rfl
        have g1 := hf 1 _ rfl
        simp [cellsInt] at g0
        simp [cellsTerms] at g1
        obtain ⟨f, hfv, ef, hw⟩ := DataW.trod_int Tryd.underlying3 g0
        injection hfv with hfv
        subst hfv
        have hf64 : I64 f := by
          have := hw
          simp [Lit.wf, IntKind.min, IntKind.max, IntKind.signed, IntKind.bits] at this
          exact this
        rcases DataW.trod_slice Tryd.underlying35 g1 with ⟨hv, e1⟩ | ⟨a, len, cap, elems, rest, m, hm, hv, e1, _, hl, hmax, hlenE, hel, _, _⟩
        · injection hv with hv
          subst hv
          refine ⟨.node f [], none, 0, rfl, hf64, .nil none, ?_⟩
          subst hx
          simp [ef, e1, Tm.size, sizes, Rows.uptoBulk, Rows.uptoBulkAll]
        · injection hv with hv
          subst hv
          have each : ∀ i, i < len → ∃ q : Tm × Option Addr × Nat × DataW H, I64 q.1.fn ∧ W.cell? (a.add (i * 2)) = some (.int .i64 q.1.fn) ∧ W.cell? ((a.add (i * 2)).add 1) = some (.slice q.2.1 q.1.args.length q.2.2.1) ∧ Args W W.heap.size q.2.1 q.1.args ∧ q.1.size ≤ Rows.uptoBulk q.2.2.2 ∧ (elems.map (·.1))[i]? = some q.2.2.2 := by
            intro i hi
            have h1 := hel i hi
            rw [cellsTerm] at h1
            rw [List.getElem?_eq_getElem (by omega)] at h1
            cases hc : W.cells? base (a.add (i * 2)) 2 with
            | none => rw [hc] at h1; cases h1
            | some cs' =>
              rw [hc] at h1
              simp only [Option.bind_some] at h1
              obtain ⟨t, A, c, rfl, ht64, hA, hb⟩ := ih m (by omega) cs' _ h1
              obtain ⟨_, _, hat⟩ := World.cells?_some hc
              refine ⟨(t, A, c, (elems[i]'(by omega)).1), ht64, ?_, hat 1 (by omega), hA, hb, by rw [List.getElem?_map, List.getElem?_eq_getElem (show i < elems.length by omega)]; rfl⟩
              have := hat 0 (by omega)
              simpa [Addr.add] using this
          haveI : Inhabited (Tm × Option Addr × Nat × DataW H) := ⟨(.node 0 [], none, 0, .nil)⟩
          obtain ⟨q, hq⟩ := Go.Deep.choose_lt each
          have hget : ∀ (i : Nat) (t : Tm), ((List.range len).map fun i => (q i).1)[i]? = some t → i < len ∧ t = (q i).1 := by
            intro i t e
            have hi : i < len := by have := (List.getElem?_eq_some_iff.1 e).1; simpa using this
            rw [List.getElem?_map, List.getElem?_range hi] at e
            simp at e
            exact ⟨hi, e.symm⟩
          refine ⟨.node f ((List.range len).map fun i => (q i).1), some a, cap, by simp [Tm.fn, Tm.args], hf64, ?_, ?_⟩
          · rcases Nat.eq_zero_or_pos len with h0 | h0
            · subst h0; exact .nil _
            · have c00 := (hq 0 h0).2.1
              simp only [Nat.zero_mul, Addr.add, if_true] at c00
              obtain ⟨blk, off, spot⟩ := a
              obtain rfl : spot = none := cell_spot c00
              have hblk : blk < W.heap.size := by
                unfold World.cell? at c00
                rcases Nat.lt_or_ge blk W.heap.size with h1 | h1
                · exact h1
                · simp [Array.getElem?_eq_none h1] at c00
              simp only [Tm.args]
              refine .row blk off _ (fun i => (q i).2.1) (fun i => (q i).2.2.1) hblk (by unfold maxLen at hmax; simp; omega) (fun i t e => ?_) (fun i t e => ?_) (fun i t e => ?_) (fun i t e => ?_)
              · obtain ⟨hi, rfl⟩ := hget i t e
                exact (hq i hi).1
              · obtain ⟨hi, rfl⟩ := hget i t e
                have := (hq i hi).2.1
                rwa [Addr.add_lit] at this
              · obtain ⟨hi, rfl⟩ := hget i t e
                have := (hq i hi).2.2.1
                rwa [Addr.add_lit, Addr.add_lit] at this
              · obtain ⟨hi, rfl⟩ := hget i t e
                exact (hq i hi).2.2.2.1
          · subst hx
            have hb : sizes ((List.range len).map fun i => (q i).1) ≤ Rows.uptoBulkAll (elems.map (·.1)) := by
              refine bulk_all _ _ (by simp [hlenE]) fun i t d e1 e2 => ?_
              obtain ⟨hi, rfl⟩ := hget i t e1
              have h5 := (hq i hi).2.2.2.2
              rw [h5.2] at e2
              cases e2
              exact h5.1
            simp only [ef, e1, Tm.size, List.map_cons, List.map_nil, Rows.uptoBulk, Rows.uptoBulkAll]
            omega
end
end Go.Proofs.YtmmiclpedehcpaaDoor
namespace Go.Proofs.YtmmiclpedehcpaaDoor
open Go.ChangeShapes Go.WideShapes Go.ChangeAt Go.RowKit
set_option maxRecDepth 20000
section
variable {H : Type} {enc : TypeId × Value → H} {W : World} {base : Nat} {held : Bool}
theorem trodb_terms {n : Nat} {c1 : Value} {x : DataW H × List MemPlace} (g1 : DataW.trod enc Tryd.prog W base (fun _ => true) held n 35 [c1] = some x) :
    ∃ (l : List Tm) (A : Option Addr) (c : Nat), c1 = .slice A l.length c ∧ Args W W.heap.size A l ∧ sizes l ≤ Rows.uptoBulk x.1 := by
  rcases DataW.trod_slice Tryd.underlying35 g1 with ⟨hv, e1⟩ | ⟨a, len, cap, elems, rest, m, hm, hv, e1, _, hl, hmax, hlenE, hel, _, _⟩
  · injection hv with hv
    subst hv
    refine ⟨[], none, 0, rfl, .nil none, ?_⟩
    simp [sizes]
  · injection hv with hv
    subst hv
    have each : ∀ i, i < len → ∃ q : Tm × Option Addr × Nat × DataW H, I64 q.1.fn ∧ W.cell? (a.add (i * 2)) = some (.int .i64 q.1.fn) ∧ W.cell? ((a.add (i * 2)).add 1) = some (.slice q.2.1 q.1.args.length q.2.2.1) ∧ Args W W.heap.size q.2.1 q.1.args ∧ q.1.size ≤ Rows.uptoBulk q.2.2.2 ∧ (elems.map (·.1))[i]? = some q.2.2.2 := by
      intro i hi
      have h1 := hel i hi
      rw [cellsTerm] at h1
      rw [List.getElem?_eq_getElem (by omega)] at h1
      cases hc : W.cells? base (a.add (i * 2)) 2 with
      | none => rw [hc] at h1; cases h1
      | some cs' =>
        rw [hc] at h1
        simp only [Option.bind_some] at h1
        obtain ⟨t, A, c, rfl, ht64, hA, hb⟩ := trod_term m cs' _ h1
        obtain ⟨_, _, hat⟩ := World.cells?_some hc
        refine ⟨(t, A, c, (elems[i]'(by omega)).1), ht64, ?_, hat 1 (by omega), hA, hb, by rw [List.getElem?_map, List.getElem?_eq_getElem (show i < elems.length by omega)]; rfl⟩
        have := hat 0 (by omega)
        simpa [Addr.add] using this
    haveI : Inhabited (Tm × Option Addr × Nat × DataW H) := ⟨(.node 0 [], none, 0, .nil)⟩
    obtain ⟨q, hq⟩ := Go.Deep.choose_lt each
    have hget : ∀ (i : Nat) (t : Tm), ((List.range len).map fun i => (q i).1)[i]? = some t → i < len ∧ t = (q i).1 := by
      intro i t e
      have hi : i < len := by have := (List.getElem?_eq_some_iff.1 e).1; simpa using this
      rw [List.getElem?_map, List.getElem?_range hi] at e
      simp at e
      exact ⟨hi, e.symm⟩
    refine ⟨(List.range len).map fun i => (q i).1, some a, cap, by simp, ?_, ?_⟩
    · rcases Nat.eq_zero_or_pos len with h0 | h0
      · subst h0; exact .nil _
      · have c00 := (hq 0 h0).2.1
        simp only [Nat.zero_mul, Addr.add, if_true] at c00
        obtain ⟨blk, off, spot⟩ := a
        obtain rfl : spot = none := cell_spot c00
        have hblk : blk < W.heap.size := by
          unfold World.cell? at c00
          rcases Nat.lt_or_ge blk W.heap.size with h1 | h1
          · exact h1
          · simp [Array.getElem?_eq_none h1] at c00
        refine .row blk off _ (fun i => (q i).2.1) (fun i => (q i).2.2.1) hblk (by unfold maxLen at hmax; simp; omega) (fun i t e => ?_) (fun i t e => ?_) (fun i t e => ?_) (fun i t e => ?_)
        · obtain ⟨hi, rfl⟩ := hget i t e
          exact (hq i hi).1
        · obtain ⟨hi, rfl⟩ := hget i t e
          have := (hq i hi).2.1
          rwa [Addr.add_lit] at this
        · obtain ⟨hi, rfl⟩ := hget i t e
          have := (hq i hi).2.2.1
          rwa [Addr.add_lit, Addr.add_lit] at this
        · obtain ⟨hi, rfl⟩ := hget i t e
          exact (hq i hi).2.2.2.1
    · have hb : sizes ((List.range len).map fun i => (q i).1) ≤ Rows.uptoBulkAll (elems.map (·.1)) := by
        refine bulk_all _ _ (by simp [hlenE]) fun i t d e1 e2 => ?_
        obtain ⟨hi, rfl⟩ := hget i t e1
        have h5 := (hq i hi).2.2.2.2
        rw [h5.2] at e2
        cases e2
        exact h5.1
      simp only [e1, Rows.uptoBulk]
      omega
theorem openb_terms {r : Reach} {b0 : Nat} {v : Value} {d : DataW H} {ps : List MemPlace} (hv : Value.okWide Tryd.prog W r b0 35 v) (h : DataW.Trod enc Tryd.prog W base (fun _ => true) held 35 v d ps) :
    ∃ (l : List Tm) (A : Option Addr) (c : Nat), v = .slice A l.length c ∧ Args W W.heap.size A l ∧ sizes l ≤ Rows.uptoBulk d := by
  obtain ⟨a0, len0, cap0, rfl⟩ := okWide_slice Tryd.underlying35 hv
  obtain ⟨fuel, hf⟩ := h
  have hf' : DataW.trod enc Tryd.prog W base (fun _ => true) held fuel 35 [.slice a0 len0 cap0] = some (d, ps) := hf
  exact trodb_terms hf'
end
end Go.Proofs.YtmmiclpedehcpaaDoor
namespace Go.Proofs.YtmmiclpedehcpaaDoor
open Go.ChangeShapes Go.WideShapes Go.ChangeAt Go.RowKit
section
variable {H : Type} {enc : TypeId × Value → H} {P : Program}
theorem trodAll_later (hl : laidOutB P = true) {W W' : World} (hb : Below W.heap.size W W') : ∀ {ts : List TypeId} {vs : List Value} {ds : List (DataW H)} {ps : List MemPlace},
    (ts.all fun t => P.readableRec t && decide (t < P.types.size)) = true → (∀ x ∈ ps, x.block < W.heap.size) → DataW.TrodAll enc P W 0 (fun _ => true) true ts vs ds ps → DataW.TrodAll enc P W' 0 (fun b => decide (b < W.heap.size)) true ts vs ds ps
  | [], [], [], _, _, _, h => h
  | [], [], _ :: _, _, _, _, h => h.elim
  | [], _ :: _, _, _, _, _, h => h.elim
  | _ :: _, [], _, _, _, _, h => h.elim
  | _ :: _, _ :: _, [], _, _, _, h => h.elim
  | t :: ts, v :: vs, d :: ds, ps, hr, hlt, h => by
    obtain ⟨p, q, h1, h2, rfl⟩ := h
    simp only [List.all_cons, Bool.and_eq_true, decide_eq_true_eq] at hr
    exact ⟨p, q, Below.trod hl hr.1.1 hr.1.2 h1 hb (fun x hx => hlt x (List.mem_append_left _ hx)), trodAll_later hl hb hr.2 (fun x hx => hlt x (List.mem_append_right _ hx)) h2, rfl⟩
theorem law_post (hl : laidOutB P = true) {f : Func} {s : ChangeSpec} {tb : TypeId} (hv : s.vars = []) (hrt : f.resultTypes = #[tb]) (htb : P.underlying tb = some .bool)
    (hread : (f.params.toList.all fun t => P.readableRec t && decide (t < P.types.size)) = true) {W W' : World} {args : Array Value} {ds gs : List (DataW H)} {before : List MemPlace}
    (hW : DataW.Whole enc P f.params.toList s.vars false W args.toList ds gs before) (hfn : s.fn H (ds ++ gs) = { results := [.lit (.bool true)], args := ds }) (hb : Below W.heap.size W W') :
    s.post enc P f false true false false W args (.bool true) W' := by
  have hlt := hW.lt
  have hW' := hW
  obtain ⟨p, q, hA, hV, rfl, hfz, _⟩ := hW'
  have hV' : gs = [] ∧ q = [] := by
    rw [hv] at hV
    cases gs with
    | nil => exact ⟨rfl, hV⟩
    | cons _ _ => exact hV.elim
  obtain ⟨rfl, rfl⟩ := hV'
  have hold : ∀ x ∈ p, x.block < W.heap.size := fun x hx => hlt x (by simp [hx])
  refine ⟨ds, [], p ++ [], [], p, [], hW, ?_, ?_, ?_, World.keptBut_mono (fun x hx => ⟨hx, ?_⟩) (hb.frame (· ∈ p ++ [])), fun h => by cases h⟩
  · rw [hfn, hrt]
    exact trodAll_mk1 (shut_bool htb _)
  · rw [hfn]
    exact trodAll_later hl hb hread hold hA
  · rw [hfn, hv]
    rfl
  · rw [List.append_nil] at hx
    exact .inr (.inl hx)
end
end Go.Proofs.YtmmiclpedehcpaaDoor
namespace Go.Proofs.YtmmiclpedehcpaaDoor
open Go.ChangeShapes Go.WideShapes Go.ChangeAt Go.RowKit
theorem own : ownKnob Tryd.prog.godebug = none := by kernel_rfl
theorem gTruth : Tryd.prog.globalNamed "syllogism/sign.truth" = some 0 := by kernel_rfl
theorem gTruthType : (Tryd.prog.globals[0]?).map (·.type) = some 67 := by kernel_rfl
theorem cell_spot' {W : World} {b o : Nat} {v : Value} (h : W.cell? ⟨b, o, none⟩ = some v) : b < W.heap.size := by
  unfold World.cell? at h
  rcases Nat.lt_or_ge b W.heap.size with h1 | h1
  · exact h1
  · simp [Array.getElem?_eq_none h1] at h
theorem tru_of_laid {W : World} {rest : List (String × DataW Unit)} (h : laidMet Tryd.prog (("syllogism/sign.truth", Rows.laid_syllogism_sign_truth) :: rest) W) : tru W := by
  obtain ⟨ps, ⟨g', t', cs, fuel, p, q, hg', ht', hvar, hd, _, _⟩, _⟩ := h
  obtain rfl := Option.some.inj (gTruth.symm.trans hg')
  obtain rfl := Option.some.inj (gTruthType.symm.trans ht')
  obtain ⟨s, hcs, _, hx⟩ := trod_sym hd
  have hs : s = truthSm := by
    obtain ⟨a, b, c⟩ := s
    simp [Rows.laid_syllogism_sign_truth] at hx
    obtain ⟨h1, rfl, rfl⟩ := hx
    have : a = truthS := ByteArray.ext (Array.toList_inj.1 h1.symm)
    rw [this]
    rfl
  subst hs
  have hc0 := World.var?_cell hg' hvar 0
  have hc1 := World.var?_cell hg' hvar 1
  have hc2 := World.var?_cell hg' hvar 2
  obtain ⟨cl⟩ := cs
  simp only at hcs
  subst hcs
  refine ⟨hc0, hc1, hc2, ?_⟩
  have := cell_spot' hc0
  exact this
end Go.Proofs.YtmmiclpedehcpaaDoor
namespace Go.Proofs.YtmmiclpedehcpaaDoor
open Go.ChangeShapes Go.WideShapes Go.ChangeAt Go.RowKit
set_option maxRecDepth 20000
variable {H : Type} {enc : TypeId × Value → H} {W : World} {base : Nat} {held : Bool}
end Go.Proofs.YtmmiclpedehcpaaDoor
