/- The document's own answer: Normal, walked. SubstNormal: the law. -/
import Derived.Test.YtdeegdndfblnkaaYAG
import Derived.Test.YtdeegdndfblnkaaYA9
import Derived.Test.YtdeegdndfblnkaaUX
import Derived.Test.YtdeegdndfblnkaaU21
namespace Go.Proofs.Ytdeegdndfblnkaa
open Go.RowKit Go.Shelf
set_option maxRecDepth 100000

/-- What has been laid behind the k-th variable, ahead of the sinking. -/
def SnkOK (L : List Int) (k : Nat) (S1 : List Int) : Prop :=
  (S1 = [] ∧ SrtI L (k + 1) []) ∨ ∃ S0 y, S1 = S0 ++ [y] ∧ ∀ l j, SinkI S0 y j l → (∀ z, j ≠ 0 → S0[j - 1]? = some z → z ≤ y) → SrtI L (k + 1) l
theorem SrtI.snk_grow {L S : List Int} {k : Nat} {v : Int} (h : SrtI L k S) (hv : L[k]? = some v) (hm : mvI L v = true) : SnkOK L k (S ++ [v]) :=
  .inr ⟨S, v, rfl, fun _ _ h1 h2 => h.grow hv hm h1 h2⟩
theorem SrtI.snk_stay {L S : List Int} {k : Nat} {v : Int} (h : SrtI L k S) (hv : L[k]? = some v) (hm : mvI L v = false) : SnkOK L k S := by
  have hn := h.stay hv hm
  rcases List.eq_nil_or_concat S with rfl | ⟨S0, y, rfl⟩
  · exact .inl ⟨rfl, hn⟩
  · rw [List.concat_eq_append] at h hn ⊢
    refine .inr ⟨S0, y, rfl, fun l j h1 h2 => ?_⟩
    obtain ⟨hr, hp⟩ := h1.done ((List.pairwise_append.1 h.rise).1) h2
    exact ⟨hr, hp.trans hn.perm⟩
/-- What the cut keeps. -/
structure MidN (L : List Int) (k base : Nat) (wq wx : World) (s : Value) (S1 : List Int) : Prop where
  row : RowN wx base s L S1
  ok : SnkOK L k S1
  i64 : ∀ x ∈ S1, I64 x
  len : S1.length ≤ k + 1
  below : Below base wq wx
theorem RowN.get {w : World} {base g cap n : Nat} {L l : List Int} (h : RowN w base (.slice (some ⟨g, 0, none⟩) n cap) L l) {i : Nat} {x : Int} (hx : l[i]? = some x) : w.cell? ⟨g, i * 3, none⟩ = some (.int .i64 x) ∧ w.cell? ⟨g, i * 3 + 1, none⟩ = some (.int .i64 (-1 - ((L.idxOf x : Nat) : Int))) ∧ w.cell? ⟨g, i * 3 + 2, none⟩ = some (.slice none 0 0) :=
  RowB.get (x := biN L x) h (by rw [List.getElem?_map, hx]; rfl)
theorem RowN.set {w : World} {base g cap n : Nat} {L l : List Int} {i : Nat} {x : Int} (h : RowN w base (.slice (some ⟨g, 0, none⟩) n cap) L l) (hi : i < l.length) (hL : L.length ≤ 4611686018427387904) (hx : I64 x) : RowN (setB w g i (biN L x)) base (.slice (some ⟨g, 0, none⟩) n cap) L (l.set i x) := by
  unfold RowN
  rw [List.map_set]
  exact RowB.set h (by rw [List.length_map]; exact hi) (fun k e => e.elim) (biN_fx w L hL hx)
theorem vnC_app : ∀ (a b : List Lt), vnC (a ++ b) = vnC a ++ vnC b
  | [], b => by simp [vnC]
  | x :: a, b => by simp only [List.cons_append, vnC, vnC_app a b, List.append_assoc]
theorem vnC_take {cl : List Lt} {k : Nat} {x : Lt} (h : cl[k]? = some x) : vnC (cl.take (k + 1)) = vnC (cl.take k) ++ (vn x.l ++ vn x.r) := by
  rw [List.take_add_one, h, vnC_app]
  simp [vnC]
theorem vnC_le (cl : List Lt) (k : Nat) : (vnC (cl.take k)).length ≤ (vnC cl).length := by
  have := congrArg List.length (vnC_app (cl.take k) (cl.drop k))
  rw [List.take_append_drop, List.length_append] at this
  omega
theorem OrdW.low {base : Nat} {w w' : World} {v' : Value} {l : List Int} (h : OrdW base (.slice none 0 0) w v' l w') : Below w.heap.size w w' :=
  ⟨h.gr.os, h.gr.tape, h.gr.output, h.gr.size, fun g hg => h.gr.block g hg (by simp [Value.ownBlock])⟩
theorem nil_ints (w : World) (base : Nat) : IntsR w base (.slice none 0 0) [] := ⟨World.ownsRow_nil w _ _ _, by simp⟩

set_option maxHeartbeats 4000000 in
theorem refNormal_any (cl : List Lt) (hlen : cl.length ≤ 1048576) (hsz : ∀ x ∈ cl, x.l.size ≤ 4398046511104 ∧ x.r.size ≤ 4398046511104) (hU : (vnC cl).length ≤ 1099511627776) (A : Option Addr) (c : Nat) (w : World) (hA : Lits w (· < w.heap.size) A cl) :
    Calls Try.prog 28 #[.slice A cl.length c] w (NormPost cl w) := by
  obtain ⟨i0, hi, hz0, hz1, hz2⟩ := info_parts info_bind
  have HA := Lib.hid hA
  have hI64 := ordC_i64 hA
  have hnd : ((vnC cl).foldl ordI []).Nodup := ord_nodup _ _ .nil
  have hLl : ((vnC cl).foldl ordI []).length ≤ 1099511627776 := by have := ord_len (vnC cl) []; simp at this; omega
  have hren : ∀ w1, Below w.heap.size w w1 → ∀ (B : Option Addr) (cb : Nat), Binds w1 (· < w1.heap.size) B ((rnN ((vnC cl).foldl ordI [])).map (bdN ((vnC cl).foldl ordI []))) → Calls Try.prog 66 #[.slice A cl.length c, .slice B (rnN ((vnC cl).foldl ordI [])).length cb] w1 fun e w' => ∃ A' c', e = .returned (.slice A' cl.length c') ∧ Lits w' (fun g => w1.heap.size ≤ g ∧ g < w'.heap.size) A' (nuC ((vnC cl).foldl ordI []) cl) ∧ Below w1.heap.size w1 w' := by
    intro w1 hb B cb hBd
    have := refRenamed_any ((rnN ((vnC cl).foldl ordI [])).map (bdN ((vnC cl).foldl ordI []))) (fun x hx => by obtain ⟨v, _, rfl⟩ := List.mem_map.1 hx; show Tm.size (.node _ []) ≤ _; simp [Tm.size, sizes]) cl (by omega) hsz B cb A c w1 hBd ((hA.keep fun g e => hb.block g e).wide fun g e => Nat.lt_of_lt_of_le e hb.size)
    rw [nmC_rn, List.length_map] at this
    exact this
  unfold NormPost
  have HI0 := Lib.hid (OrdW.refl (nil_ints w w.heap.size))
  obtain ⟨L, hL⟩ : ∃ L, (vnC cl).foldl ordI [] = L := ⟨_, rfl⟩
  rw [hL] at hI64 hnd hLl hren ⊢
  have HL := Lib.hid hL
  have H64 := Lib.hid hI64
  have Hren := Lib.hid hren
  have HU := Lib.hid hU
  clear hA hL hI64 hren hU hsz
  go_enter Try.func28, Try.ntmps28
  go_wp2
  go_loopw [4, 5] (fun v i wr => ∃ k : Nat, k ≤ cl.length ∧ i = .int .i64 (k : Int) ∧ Hid (OrdW w.heap.size (.slice none 0 0) w v ((vnC (cl.take k)).foldl ordI []) wr)) (fun _ i _ => cl.length - (intOf i).toNat)
  case atStart => exact ⟨0, Nat.zero_le _, rfl, by simpa [vnC] using HI0⟩
  case round =>
    obtain ⟨k, hk, rfl, HO⟩ := hrel
    have hBr := HO.out.low
    by_cases hlt : k < cl.length
    · obtain ⟨x, hx⟩ : ∃ x, cl[k]? = some x := ⟨_, List.getElem?_eq_getElem hlt⟩
      obtain ⟨bb, off, B1, d1, B2, d2, rfl, hbb, h⟩ := HA.out.get hx
      have e0 := cell_on hBr hbb h.v1
      have e1 := cell_on hBr hbb h.v2
      have hvk := vnC_take hx
      have hle := vnC_le cl (k + 1)
      have hUo := HU.out
      rw [hvk, List.length_append, List.length_append] at hle
      obtain ⟨l, hl⟩ : ∃ l, (vnC (cl.take k)).foldl ordI [] = l := ⟨_, rfl⟩
      have hll : l.length ≤ (vnC (cl.take k)).length := by have := ord_len (vnC (cl.take k)) []; rw [hl] at this; simpa using this
      have hlx := ord_len (vn x.l) l
      have hfold : (vnC (cl.take (k + 1))).foldl ordI [] = (vn x.r).foldl ordI ((vn x.l).foldl ordI l) := by rw [hvk, List.foldl_append, List.foldl_append, hl]
      rw [hl] at HO
      have hc1 := Lib.hid (refOrder_any x.l l (by omega) u4 w.heap.size B1 d1 wr h.il HO.out.row (h.sl.keep fun g e => hBr.block g e) hBr.size)
      have hc2 : ∀ (v2 : Value) (w2 : World), OrdW w.heap.size (.slice none 0 0) w v2 ((vn x.l).foldl ordI l) w2 → _ := fun v2 w2 ho => refOrder_any x.r ((vn x.l).foldl ordI l) (by omega) v2 w.heap.size B2 d2 w2 h.ir ho.row (h.sr.keep fun g e => ho.low.block g e) ho.low.size
      have hj : ∀ (v2 : Value) (w2 : World), OrdW w.heap.size (.slice none 0 0) w v2 ((vn x.l).foldl ordI l) w2 → w2.cell? ⟨bb, off + k * 5 + 3, none⟩ = some (.int .i64 x.r.fn) ∧ w2.cell? ⟨bb, off + k * 5 + 3 + 1, none⟩ = some (.slice B2 x.r.args.length d2) := fun v2 w2 ho => ⟨cell_on ho.low hbb h.v3, cell_on ho.low hbb h.v4⟩
      have hc2 := Lib.hid hc2
      have hj := Lib.hid hj
      have Hfold := Lib.hid hfold
      clear hx h hvk hle hUo hl hll hlx hfold
      go_wp2_with (first
        | (go_at_call 65; (with_reducible refine hc1.out.mono ?_); go_must (rintro e w2 ⟨v2, rfl, hO2⟩; have HO2 := Lib.hid (HO.out.step hO2); obtain ⟨j3, j4⟩ := hj.out v2 w2 HO2.out; have hc3 := Lib.hid (hc2.out v2 w2 HO2.out); clear hO2))
        | (go_at_call 65; (with_reducible refine hc3.out.mono ?_); go_must (rintro e w3 ⟨v3, rfl, hO3⟩; have HO3 := Lib.hid (HO2.out.step hO3); clear hO3))
        | fail)
      go_roundw
      case rel => exact ⟨k + 1, by omega, by go_num, by rw [Hfold.out]; exact HO3⟩
      case measure => simp [intOf]; omega
    · obtain rfl : k = cl.length := by omega
      rw [List.take_length, HL.out] at HO
      obtain ⟨wq, rfl⟩ : ∃ wq, wq = wr := ⟨_, rfl⟩
      have HI := Lib.hid HO.out.row
      obtain ⟨Al, cL, hv⟩ := row_slice HO.out.row.row
      subst hv
      have hBq := hBr
      have HS0 := Lib.hid (SrtI.start L)
      have HR0 := Lib.hid (RowN.nil_ wq wq.heap.size L)
      clear HO hBr
      go_wp2
      go_loopw [6, 7] (fun s i wr => ∃ (k : Nat) (S : List Int), k ≤ L.length ∧ i = .int .i64 (k : Int) ∧ Below wq.heap.size wq wr ∧ Hid (SrtI L k S) ∧ Hid (RowN wr wq.heap.size s L S)) (fun _ i _ => L.length - (intOf i).toNat)
      case atStart => exact ⟨0, [], Nat.zero_le _, rfl, Below.refl _ _, HS0, HR0⟩
      case round =>
        obtain ⟨k, S, hk, rfl, hBr, HS, HR⟩ := hrel
        by_cases hlt : k < L.length
        · obtain ⟨x, hx⟩ : ∃ x, L[k]? = some x := ⟨_, List.getElem?_eq_getElem hlt⟩
          obtain ⟨g, c', hv, hg, hc⟩ := HI.out.get hx
          injection hv with hv1 _ hv3
          subst hv1
          subst hv3
          have e0 := cell_on hBr hg hc
          have hx64 := H64.out x (List.mem_of_getElem? hx)
          obtain ⟨hmv, hidx⟩ := mvI_at hnd hx
          have hSn := HS.out.len
          have hS64 : ∀ y ∈ S, I64 y := fun y hy => H64.out y (HS.out.mem hy)
          have HS64 := Lib.hid hS64
          have Hmv := Lib.hid hmv
          have Hidx := Lib.hid hidx
          have Hx := Lib.hid hx
          have hzr := hBr.size
          clear hx hmv hidx hS64 hc
          go_upto_if 41 with fail
          go_cut [6] from 30 to 90 (fun s6 wx => ∃ S1, MidN L k wq.heap.size wq wx s6 S1)
          case first =>
            by_cases hne : (x : Int) = (k : Int)
            · have hnf : ((x : Int) != (k : Int)) = false := by simp [hne]
              have hst := HS.out.snk_stay Hx.out (by rw [Hmv.out, decide_eq_true hne.symm]; rfl)
              clear hne
              go_wp2
              go_meet
              exact ⟨S, HR.out, hst, HS64.out, by omega, hBr⟩
            · have hnt : ((x : Int) != (k : Int)) = true := by simp [hne]
              have hst := HS.out.snk_grow Hx.out (by rw [Hmv.out, decide_eq_false (fun e => hne e.symm)]; rfl)
              have hpush : ∀ (w5 : World) (v5 : Value), w5.ownsRow wq.heap.size 77 3 v5 (S.length + 1) ((S.map (biN L)).flatMap Bi.cells ++ [.int .i64 x, .int .i64 (-1 - (k : Int)), .slice none 0 0]) → RowN w5 wq.heap.size v5 L (S ++ [x]) := fun _ _ ho => HR.out.push (by omega) hx64 (by rw [Hidx.out]; exact ho)
              have Hpush := Lib.hid hpush
              have hrow := HR.out.row
              obtain ⟨Rc, hRc⟩ : ∃ Rc, (S.map (biN L)).flatMap Bi.cells = Rc := ⟨_, rfl⟩
              rw [hRc] at hrow Hpush
              have hrl := row_lt hrow
              obtain ⟨Ar, cr, hs⟩ := row_own hrow
              subst hs
              have Hrow := Lib.hid hrow
              have Hst := Lib.hid hst
              clear hne hrow hpush hRc hst
              go_wp2_with (first
                | (at_builtin
                   go_must (
                   refine wpList_append_own_at _ rfl _ _ 23 rfl wq.heap.size 77 i0 (.agg #[.int .i64 0, .int .i64 0, .slice none 0 0]) 3 40 Try.underlying23 hi hz0 hz1 hz2 rfl (by decide) (.slice Ar S.length cr) S.length _ rfl (row_keep Hrow.out fun g e => Below.heap_alloc wr _ g (hrl g e).2) ⟨wr.heap.size, 0, none⟩ 1 1 [.int .i64 x, .int .i64 (-1 - (k : Int)), .slice none 0 0] rfl rfl (cells_new_bind _ _ _ _ _) (by simp [Value.oneCell']) (by unfold maxLen; omega) (by omega) (by simp; omega) ?_
                   intro v5 w5 hown5 hgr5 _ hat5
                   have Hown5 := Lib.hid hown5
                   have hB5 : Below wq.heap.size wq w5 := (hBr.alloc hzr _).grown hgr5 (by simp; omega) (fun g e => (hrl g e).1)
                   clear hown5 hgr5 hat5))
                | fail)
              go_meet
              exact ⟨S ++ [x], Hpush.out _ _ Hown5.out, Hst.out, fun y hy => by
                rcases List.mem_append.1 hy with hy | hy
                · exact HS64.out y hy
                · simp at hy; subst hy; exact hx64, by simp; omega, hB5⟩
          case rest =>
            obtain ⟨S1, hM⟩ := hcut
            obtain ⟨wo, rfl⟩ : ∃ wo, wo = wc := ⟨_, rfl⟩
            have hzo := hM.below.size
            have hrow := hM.row.row
            have hSl := hM.len
            have hS64 := Lib.hid hM.i64
            have hrl := row_lt hrow
            rcases hM.ok with ⟨hS1, hfin⟩ | ⟨S0, y, hS1, hsink⟩
            · subst hS1
              obtain ⟨A6, c6, hs⟩ := row_own (show wo.ownsRow wq.heap.size 77 3 _ 0 _ from hrow)
              subst hs
              have HM := Lib.hid hM
              have Hfin := Lib.hid hfin
              have hf0 : decide ((-1 : Int) > 0) = false := by decide
              clear hM hfin hrow hrl
              go_wp2
              go_loopw [8] (fun j wx => j = .int .i64 (-1) ∧ Below wq.heap.size wq wx ∧ Hid (RowN wx wq.heap.size (.slice A6 0 c6) L [])) (fun _ _ => 0)
              case atStart => exact ⟨rfl, HM.out.below, Lib.hid HM.out.row⟩
              case round =>
                obtain ⟨rfl, hBi, HRi⟩ := hrel
                go_upto_region 14 with fail
                refine wp_region_later wr.heap.size wr (by kernel_rfl) (by kernel_rfl) (bl_drewN (Below.refl _ _) 1) ?_
                repeat (go_big_quiet_step (fail))
                refine wpQuiet_nil ?_
                rintro _ ⟨z, rfl⟩
                have hBz := hBi.trans (z.h.mono hBi.size)
                have hRz := Lib.hid (HRi.out.on z.h)
                go_wp2
                go_roundw
                case rel => exact ⟨k + 1, [], by omega, by go_num, hBz, Hfin, hRz⟩
                case measure => simp [intOf]; omega
            · have hS0 : S1.length = S0.length + 1 := by rw [hS1]; simp
              rw [hS0] at hrow
              obtain ⟨A6, c6, hs⟩ := row_own hrow
              subst hs
              have hst := SinkI.start S0 y
              rw [← hS1] at hst
              have Hst := Lib.hid hst
              have HM := Lib.hid hM
              have Hsink := Lib.hid hsink
              have hy64 : I64 y := hM.i64 y (by rw [hS1]; simp)
              have hS064 : ∀ x ∈ S0, I64 x := fun x hx => hM.i64 x (by rw [hS1]; simp [hx])
              have HS064 := Lib.hid hS064
              have Hy64 := Lib.hid hy64
              have hlen1 : ((S0.length + 1 : Nat) : Int) - 1 = ((S0.length : Nat) : Int) := by omega
              have hwrap : IntKind.i64.wrap (((S0.length + 1 : Nat) : Int) - 1) = ((S0.length : Nat) : Int) := by rw [IntKind.wrap_i64]; omega
              rw [hS0] at hSl
              clear hM hsink hst hS1 hS064 hy64 hrow hS0
              go_wp2
              go_loopw [8] (fun jv wx => ∃ (l : List Int) (j : Nat), jv = .int .i64 (j : Int) ∧ Hid (SinkI S0 y j l) ∧ Below wq.heap.size wq wx ∧ Hid (RowN wx wq.heap.size (.slice A6 (S0.length + 1) c6) L l)) (fun jv _ => (intOf jv).toNat)
              case atStart => exact ⟨S1, S0.length, by go_num, Hst, HM.out.below, Lib.hid HM.out.row⟩
              case round =>
                obtain ⟨l, j, rfl, HSi, hBi, HRi⟩ := hrel
                have hjl := HSi.out.le
                have hll := HSi.out.len
                clear hlen1 hwrap
                rcases j with _ | m
                · have hf0 : decide (((0 : Nat) : Int) > 0) = false := by decide
                  have hfin := Lib.hid (Hsink.out l 0 HSi.out (fun z hz _ => absurd rfl hz))
                  go_upto_region 14 with fail
                  refine wp_region_later wr.heap.size wr (by kernel_rfl) (by kernel_rfl) (bl_drewN (Below.refl _ _) 1) ?_
                  repeat (go_big_quiet_step (fail))
                  refine wpQuiet_nil ?_
                  rintro _ ⟨z, rfl⟩
                  have hBz := hBi.trans (z.h.mono hBi.size)
                  have hRz := Lib.hid (HRi.out.on z.h)
                  go_wp2
                  go_roundw
                  case rel => exact ⟨k + 1, l, by omega, by go_num, hBz, hfin, hRz⟩
                  case measure => simp [intOf]; omega
                · obtain ⟨y0, hy0⟩ : ∃ y0, S0[m]? = some y0 := ⟨_, List.getElem?_eq_getElem (by omega)⟩
                  have hy0l := HSi.out.prev.trans hy0
                  have hyl := HSi.out.at_
                  have hrow := HRi.out.row
                  obtain ⟨g6, n6, hs6⟩ : ∃ g6 n6, A6 = some ⟨g6, 0, none⟩ ∧ n6 = g6 := by
                    rcases hrow.2 with ⟨e, h0⟩ | ⟨g6, cap, cur, e, _⟩
                    · omega
                    · injection e with e _ _
                      exact ⟨g6, g6, e, rfl⟩
                  obtain ⟨hs6, rfl⟩ := hs6
                  subst hs6
                  have hg6 : n6 < wr.heap.size := (row_lt hrow n6 rfl).2
                  obtain ⟨a0, a1, a2⟩ := HRi.out.get hyl
                  obtain ⟨b0, b1, b2⟩ := HRi.out.get hy0l
                  have ha0 : ∀ x' : Later wr.heap.size wr, x'.w.cell? ⟨n6, (m + 1) * 3, none⟩ = some (.int .i64 y) := fun x' => cell_on x'.h hg6 a0
                  have hb0 : ∀ x' : Later wr.heap.size wr, x'.w.cell? ⟨n6, m * 3, none⟩ = some (.int .i64 y0) := fun x' => cell_on x'.h hg6 b0
                  have f0 : IntKind.i64.wrap (((m + 1 : Nat) : Int) - 1) = (m : Int) := by rw [IntKind.wrap_i64]; omega
                  have f1 : decide (((m + 1 : Nat) : Int) > 0) = true := decide_eq_true (by omega)
                  have f2 : (m : Int) < ((S0.length + 1 : Nat) : Int) := by omega
                  have f4 : (0 : Int) ≤ (m : Int) := by omega
                  have f3 : (m : Int).toNat = m := by omega
                  have f5 : ((m + 1 : Nat) : Int) < ((S0.length + 1 : Nat) : Int) := by omega
                  have Hy0 := Lib.hid hy0
                  have Hrow := Lib.hid hrow
                  have hy064 := Lib.hid (HS064.out y0 (List.mem_of_getElem? hy0))
                  clear hy0 hy0l hyl hrow a0 b0 hll
                  by_cases hlt2 : y < y0
                  · have hd := decide_eq_true hlt2
                    have hnx := Lib.hid (HSi.out.next Hy0.out hlt2)
                    clear hlt2
                    go_upto_region 14 with fail
                    refine wp_region_later wr.heap.size wr (by kernel_rfl) (by kernel_rfl) (bl_drewN (Below.refl _ _) 1) ?_
                    repeat (go_big_quiet_step (fail))
                    refine wpQuiet_nil ?_
                    rintro _ ⟨z, rfl⟩
                    have hBz := hBi.trans (z.h.mono hBi.size)
                    have hRz := HRi.out.on z.h
                    obtain ⟨a0, a1, a2⟩ := hRz.get HSi.out.at_
                    have hzs : n6 < z.w.heap.size := Nat.lt_of_lt_of_le hg6 z.h.size
                    obtain ⟨W, hW⟩ : ∃ W, z.w.alloc (.cells #[.int .i64 y, .int .i64 (-1 - ((L.idxOf y : Nat) : Int)), .slice none 0 0] 77) = W := ⟨_, rfl⟩
                    have q0 := heap_alloc_new z.w (.cells #[.int .i64 y, .int .i64 (-1 - ((L.idxOf y : Nat) : Int)), .slice none 0 0] 77)
                    have hBW : Below z.w.heap.size z.w W := by rw [← hW]; exact (Below.refl _ _).alloc (Nat.le_refl _) _
                    rw [hW] at q0
                    have hRW := hRz.on hBW
                    have hbx := cells_three q0
                    obtain ⟨x0, x1, x2, _, _, _⟩ := hbx
                    have hne6 : n6 ≠ z.w.heap.size := by omega
                    obtain ⟨y1, y2, y3⟩ := hRW.get (HSi.out.prev.trans Hy0.out)
                    obtain ⟨v0, v1, v2⟩ := hRW.get HSi.out.at_
                    have s0 := RowB.frozen hRW ((m + 1) * 3)
                    have s1 := RowB.frozen hRW ((m + 1) * 3 + 1)
                    have s2 := RowB.frozen hRW ((m + 1) * 3 + 2)
                    have t0 := RowB.frozen hRW (m * 3)
                    have t1 := RowB.frozen hRW (m * 3 + 1)
                    have t2 := RowB.frozen hRW (m * 3 + 2)
                    have hll := HSi.out.len
                    have hset := Lib.hid ((hRW.set (i := m + 1) (x := y0) (by omega) (by omega) hy064.out).set (i := m) (x := y) (by rw [List.length_set]; omega) (by omega) Hy64.out)
                    have HW := Lib.hid hW
                    have HRz := Lib.hid hRz
                    have HRW := Lib.hid hRW
                    clear hW hRz hRW hll q0
                    go_upto_region 17 with fail
                    rw [HW.out]
                    clear a0 a1 a2
                    have hg6b := (row_lt HRW.out.row n6 rfl).1
                    have hBe := ((((((hBz.trans (hBW.mono hBz.size)).setCell (p := ⟨n6, (m + 1) * 3, none⟩) hg6b (.int .i64 y0)).setCell (p := ⟨n6, (m + 1) * 3 + 1, none⟩) hg6b (.int .i64 (-1 - ((L.idxOf y0 : Nat) : Int)))).setCell (p := ⟨n6, (m + 1) * 3 + 2, none⟩) hg6b (.slice none 0 0)).setCell (p := ⟨n6, m * 3, none⟩) hg6b (.int .i64 y)).setCell (p := ⟨n6, m * 3 + 1, none⟩) hg6b (.int .i64 (-1 - ((L.idxOf y : Nat) : Int)))).setCell (p := ⟨n6, m * 3 + 2, none⟩) hg6b (.slice none 0 0)
                    go_wp2
                    go_roundw
                    case rel => exact ⟨_, m, by go_num, hnx, hBe, hset⟩
                    case measure => simp [intOf]
                  · have hd := decide_eq_false hlt2
                    have hfin := Lib.hid (Hsink.out l (m + 1) HSi.out (fun z _ hz => by
                      have : S0[m]? = some z := hz
                      rw [Hy0.out] at this
                      injection this with this
                      omega))
                    clear hlt2
                    go_upto_region 14 with fail
                    refine wp_region_later wr.heap.size wr (by kernel_rfl) (by kernel_rfl) (bl_drewN (Below.refl _ _) 1) ?_
                    repeat (go_big_quiet_step (fail))
                    refine wpQuiet_nil ?_
                    rintro _ ⟨z, rfl⟩
                    have hBz := hBi.trans (z.h.mono hBi.size)
                    have hRz := Lib.hid (HRi.out.on z.h)
                    go_wp2
                    go_roundw
                    case rel => exact ⟨k + 1, l, by omega, by go_num, hBz, hfin, hRz⟩
                    case measure => simp [intOf]; omega
        · obtain rfl : k = L.length := by omega
          obtain rfl := HS.out.fin
          have hrl := rnN_len L
          obtain ⟨A6, c6, hv6, hBd⟩ := HR.out.binds (by omega)
          subst hv6
          have hBw : Below w.heap.size w wr := hBq.trans (hBr.mono hBq.size)
          have Hr := Lib.hid (Hren.out wr hBw A6 c6 hBd)
          clear hBd
          go_wp2_with (first
            | (go_at_call 66; (with_reducible refine Hr.out.mono ?_); go_must (rintro e w3 ⟨A3, c3, rfl, hL3, hb3⟩; have HL3 := Lib.hid hL3; clear hL3))
            | fail)
          go_ret2
          refine ⟨A3, c3, _, rfl, HL3.out.wide fun g e => ⟨by have := hBw.size; omega, e.2⟩, ?_, hBw.trans (hb3.mono hBw.size)⟩
          exact (HR.out.on hb3).base_ hBq.size

end Go.Proofs.Ytdeegdndfblnkaa

namespace Go.Proofs.Ytdeegdndfblnkaa
open Go.RowKit Go.Shelf
set_option maxRecDepth 100000

theorem vnC_bound : ∀ {cl : List Lt}, (∀ x ∈ cl, x.l.size ≤ 300 ∧ x.r.size ≤ 300) → (vnC cl).length ≤ cl.length * 600
  | [], _ => by simp [vnC]
  | x :: cl, h => by
    have h1 := vn_len x.l
    have h2 := vn_len x.r
    obtain ⟨h3, h4⟩ := h x (by simp)
    have ih := vnC_bound (cl := cl) fun y hy => h y (by simp [hy])
    simp only [vnC, List.length_append, List.length_cons]
    omega
theorem nuC_len (L : List Int) (cl : List Lt) : (nuC L cl).length = cl.length := by unfold nuC; rw [List.length_map]

set_option maxHeartbeats 4000000 in
theorem SubstNormal_any (cl : List Lt) (hsz : ∀ x ∈ cl, x.l.size ≤ 4398046511104 ∧ x.r.size ≤ 4398046511104) (A : Option Addr) (c : Nat) (w : World) (hA : Lits w (· < w.heap.size) A cl) :
    Calls Try.prog 4 #[.slice A cl.length c] w fun e w' => e = .returned (.bool true) ∧ Below w.heap.size w w' := by
  by_cases hlong : 20 < cl.length
  · have hd : decide ((cl.length : Int) > 20) = true := decide_eq_true (by omega)
    clear hA
    go_enter Try.func4, Try.ntmps4
    go_wp2_with (first
      | (go_at_call 12; (with_reducible refine (subWakes_any w).mono ?_); go_must (rintro e w1 ⟨rfl, hb1⟩))
      | fail)
    go_ret
    exact ⟨rfl, hb1⟩
  · have hd : decide ((cl.length : Int) > 20) = false := decide_eq_false (by omega)
    have hcl : cl.length ≤ 20 := by omega
    have HA := Lib.hid hA
    have Hsz := Lib.hid hsz
    have HN0 : Hid (∀ j, j < 0 → ∀ x, cl[j]? = some x → x.l.size ≤ 300 ∧ x.r.size ≤ 300) := Lib.hid fun j hj => by omega
    clear hA hsz hlong
    go_enter Try.func4, Try.ntmps4
    go_wp2
    go_loopw [14] (fun i wr => ∃ k : Nat, k ≤ cl.length ∧ i = .int .i64 (k : Int) ∧ Below w.heap.size w wr ∧ Hid (∀ j, j < k → ∀ x, cl[j]? = some x → x.l.size ≤ 300 ∧ x.r.size ≤ 300)) (fun i _ => cl.length - (intOf i).toNat)
    case atStart => exact ⟨0, Nat.zero_le _, rfl, Below.refl _ _, HN0⟩
    case round =>
      obtain ⟨k, hk, rfl, hBr, HN⟩ := hrel
      clear hd
      by_cases hlt : k < cl.length
      · obtain ⟨x, hx⟩ : ∃ x, cl[k]? = some x := ⟨_, List.getElem?_eq_getElem hlt⟩
        obtain ⟨bb, off, B1, d1, B2, d2, rfl, hbb, h⟩ := HA.out.get hx
        have e0 := cell_on hBr hbb h.v1
        have e1 := cell_on hBr hbb h.v2
        obtain ⟨s1, s2⟩ := Hsz.out x (List.mem_of_getElem? hx)
        have H1 := Lib.hid (subGreat_any x.l 300 B1 d1 wr (by omega) h.il ((h.sl.keep fun g e => hBr.block g e).args fun g e => Nat.lt_of_lt_of_le e hBr.size))
        have H2 : ∀ w1, Below wr.heap.size wr w1 → _ := fun w1 hb => subGreat_any x.r 300 B2 d2 w1 (by omega) h.ir ((h.sr.keep fun g e => (hBr.trans (hb.mono hBr.size)).block g e).args fun g e => Nat.lt_of_lt_of_le e (Nat.le_trans hBr.size hb.size))
        have hj : ∀ w1, Below wr.heap.size wr w1 → w1.cell? ⟨bb, off + k * 5 + 3, none⟩ = some (.int .i64 x.r.fn) ∧ w1.cell? ⟨bb, off + k * 5 + 3 + 1, none⟩ = some (.slice B2 x.r.args.length d2) := fun w1 hb => ⟨cell_on (hBr.trans (hb.mono hBr.size)) hbb h.v3, cell_on (hBr.trans (hb.mono hBr.size)) hbb h.v4⟩
        have H2 := Lib.hid H2
        have hj := Lib.hid hj
        have Hx := Lib.hid hx
        clear hx h s1 s2
        by_cases g1 : (300 : Int) < (x.l.size : Int)
        · have g1' := decide_eq_true g1
          clear g1
          go_wp2_with (first
            | (go_at_call 13; (with_reducible refine H1.out.mono ?_); go_must (rintro e w1 ⟨rfl, hb1⟩; rw [g1']))
            | (go_at_call 12; (with_reducible refine (subWakes_any w1).mono ?_); go_must (rintro e w2 ⟨rfl, hb2⟩))
            | fail)
          go_ret
          exact ⟨rfl, hBr.trans ((hb1.mono hBr.size).trans (hb2.mono (Nat.le_trans hBr.size hb1.size)))⟩
        · have g1' := decide_eq_false g1
          by_cases g2 : (300 : Int) < (x.r.size : Int)
          · have g2' := decide_eq_true g2
            clear g1 g2
            go_wp2_with (first
              | (go_at_call 13; (with_reducible refine H1.out.mono ?_); go_must (rintro e w1 ⟨rfl, hb1⟩; rw [g1']; obtain ⟨j3, j4⟩ := hj.out w1 hb1; have H3 := Lib.hid (H2.out w1 hb1)))
              | (go_at_call 13; (with_reducible refine H3.out.mono ?_); go_must (rintro e w2 ⟨rfl, hb2⟩; rw [g2']; have hB2 := hb1.trans (hb2.mono hb1.size)))
              | (go_at_call 12; (with_reducible refine (subWakes_any w2).mono ?_); go_must (rintro e w3 ⟨rfl, hb3⟩))
              | fail)
            go_ret
            exact ⟨rfl, hBr.trans ((hB2.mono hBr.size).trans (hb3.mono (Nat.le_trans hBr.size hB2.size)))⟩
          · have g2' := decide_eq_false g2
            have hnx : Hid (∀ j, j < k + 1 → ∀ x, cl[j]? = some x → x.l.size ≤ 300 ∧ x.r.size ≤ 300) := Lib.hid fun j hj y hy => by
              rcases Nat.lt_or_ge j k with h | h
              · exact HN.out j h y hy
              · obtain rfl : j = k := by omega
                rw [Hx.out] at hy; injection hy with hy; subst hy
                exact ⟨by omega, by omega⟩
            clear g1 g2
            go_wp2_with (first
              | (go_at_call 13; (with_reducible refine H1.out.mono ?_); go_must (rintro e w1 ⟨rfl, hb1⟩; rw [g1']; obtain ⟨j3, j4⟩ := hj.out w1 hb1; have H3 := Lib.hid (H2.out w1 hb1)))
              | (go_at_call 13; (with_reducible refine H3.out.mono ?_); go_must (rintro e w2 ⟨rfl, hb2⟩; rw [g2']; have hB2 := hBr.trans ((hb1.trans (hb2.mono hb1.size)).mono hBr.size)))
              | fail)
            go_roundw
            case rel => exact ⟨k + 1, by omega, by go_num, hB2, hnx⟩
            case measure => simp [intOf]; omega
      · obtain rfl : k = cl.length := by omega
        obtain ⟨wo, rfl⟩ : ∃ wo, wo = wr := ⟨_, rfl⟩
        have hsm : ∀ x ∈ cl, x.l.size ≤ 300 ∧ x.r.size ≤ 300 := fun x hx => by
          obtain ⟨i, hi⟩ := List.mem_iff_getElem?.1 hx
          exact HN.out i (List.getElem?_eq_some_iff.1 hi).1 x hi
        have hvb := vnC_bound hsm
        have hvn : (vnC cl).length ≤ 12000 := by omega
        have lift : ∀ w1, Below w.heap.size w w1 → Lits w1 (· < w1.heap.size) A cl := fun w1 hb => (HA.out.keep fun g e => hb.block g e).wide fun g e => Nat.lt_of_lt_of_le e hb.size
        have hC : ∀ x ∈ cl, x.l.size ≤ 4398046511104 ∧ x.r.size ≤ 4398046511104 := fun x hx => ⟨Nat.le_trans (hsm x hx).1 (by decide), Nat.le_trans (hsm x hx).2 (by decide)⟩
        have H1 := Lib.hid (Normal_any cl (by omega) hC (by omega) A c wo (lift wo hBr))
        have H2 : ∀ w1, Below w.heap.size w w1 → _ := fun w1 hb => refNormal_any cl (by omega) hC (by omega) A c w1 (lift w1 hb)
        have H2 := Lib.hid H2
        have hrl := rnN_len ((vnC cl).foldl ordI [])
        have hol := ord_len (vnC cl) []
        simp only [List.length_nil, Nat.zero_add] at hol
        unfold NormPost at H1 H2
        obtain ⟨L, hL⟩ : ∃ L, (vnC cl).foldl ordI [] = L := ⟨_, rfl⟩
        rw [hL] at H1 hrl hol
        have H2 : ∀ w1, Below w.heap.size w w1 → Calls Try.prog 28 #[.slice A cl.length c] w1 fun e w' => ∃ A' c' v, e = .returned (.tuple #[.slice A' cl.length c', v]) ∧ Lits w' (fun g => w1.heap.size ≤ g ∧ g < w'.heap.size) A' (nuC L cl) ∧ RowN w' w1.heap.size v L (rnN L) ∧ Below w1.heap.size w1 w' := fun w1 hb => by have := H2.out w1 hb; rwa [hL] at this
        have H2 := Lib.hid H2
        have hnl := nuC_len L cl
        have H3 : ∀ (w1 : World) (A1 A2 : Option Addr) (c1 c2 : Nat), Lits w1 (· < w1.heap.size) A1 (nuC L cl) → Lits w1 (· < w1.heap.size) A2 (nuC L cl) → Calls Try.prog 23 #[.slice A1 cl.length c1, .slice A2 cl.length c2] w1 fun e w' => e = .returned (.bool true) ∧ Below w1.heap.size w1 w' := fun w1 A1 A2 c1 c2 h1 h2 => by
          have := lawSame_any (nuC L cl) (nuC L cl) A1 A2 c1 c2 w1 h1 h2
          rwa [hnl, sameC_refl] at this
        have H4 : ∀ (w1 : World) (A1 A2 : Option Addr) (c1 c2 : Nat), Binds w1 (· < w1.heap.size) A1 ((rnN L).map (bdN L)) → Binds w1 (· < w1.heap.size) A2 ((rnN L).map (bdN L)) → Calls Try.prog 19 #[.slice A1 (rnN L).length c1, .slice A2 (rnN L).length c2] w1 fun e w' => e = .returned (.bool true) ∧ Below w1.heap.size w1 w' := fun w1 A1 A2 c1 c2 h1 h2 => by
          have := refSubSame_any ((rnN L).map (bdN L)) ((rnN L).map (bdN L)) A1 A2 c1 c2 w1 h1 h2
          rwa [List.length_map, sameB_refl] at this
        have H3 := Lib.hid H3
        have H4 := Lib.hid H4
        have hrn9 : (rnN L).length ≤ 12000 := by omega
        clear hL hnl hvb hvn hsm lift hC HN
        go_wp2_with (first
          | (go_at_call 27; (with_reducible refine H1.out.mono ?_); go_must (rintro e w1 ⟨A1, c1, v1, rfl, hL1, hR1, hb1⟩; obtain ⟨B1, d1, hv1, hD1⟩ := hR1.binds (by omega); subst hv1; have HL1 := Lib.hid hL1; have HD1 := Lib.hid hD1; have hB1 := hBr.trans (hb1.mono hBr.size); clear hL1 hR1 hD1))
          | (go_at_call 28; (with_reducible refine (H2.out w1 hB1).mono ?_); go_must (rintro e w2 ⟨A2, c2, v2, rfl, hL2, hR2, hb2⟩; obtain ⟨B2, d2, hv2, hD2⟩ := hR2.binds (by omega); subst hv2; have hB2 := hB1.trans (hb2.mono hB1.size); have H5 := Lib.hid (H3.out w2 A1 A2 c1 c2 ((HL1.out.keep fun g e => hb2.block g e.2).wide fun g e => Nat.lt_of_lt_of_le e.2 hb2.size) (hL2.wide fun g e => e.2)); have HD2 := Lib.hid hD2; clear hL2 hR2 hD2))
          | (go_at_call 23; (with_reducible refine H5.out.mono ?_); go_must (rintro e w3 ⟨rfl, hb3⟩; have hB3 := hB2.trans (hb3.mono hB2.size); have H6 := Lib.hid (H4.out w3 B1 B2 d1 d2 ((HD1.out.keep fun g e => (hb2.trans (hb3.mono hb2.size)).block g e).wide fun g e => Nat.lt_of_lt_of_le e (Nat.le_trans hb2.size hb3.size)) ((HD2.out.keep fun g e => hb3.block g e).wide fun g e => Nat.lt_of_lt_of_le e hb3.size))))
          | (go_at_call 19; (with_reducible refine H6.out.mono ?_); go_must (rintro e w4 ⟨rfl, hb4⟩; have hB4 := hB3.trans (hb4.mono hB3.size)))
          | (go_at_call 12; (with_reducible refine (subWakes_any w4).mono ?_); go_must (rintro e w5 ⟨rfl, hb5⟩))
          | fail)
        go_ret
        exact ⟨rfl, hB4.trans (hb5.mono hB4.size)⟩

end Go.Proofs.Ytdeegdndfblnkaa
