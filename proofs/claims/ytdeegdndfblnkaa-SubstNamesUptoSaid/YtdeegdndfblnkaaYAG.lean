/- The keys of a map of the call's own, sorted. renaming: the substitution that Normal tells. Normal, walked. -/
import Derived.Test.YtdeegdndfblnkaaYA9
import Derived.Test.YtdeegdndfblnkaaS4
import Derived.Test.YtdeegdndfblnkaaYA4
import Derived.WideMake
namespace Go.Proofs.Ytdeegdndfblnkaa
open Go.RowKit Go.Shelf Go.Maps Go.Sort
set_option maxRecDepth 100000

theorem sortsA (m : Nat) : AnyZI.SortsIn Try.prog Try.sortedA_ren Fence.wide m :=
  ⟨fun blk off cap ss W hH hblk hsz => callsIn_wide.2 (AnyM.slices_Sort_int Try.sortA blk off cap ss W hH hblk hsz),
   fun p cap W => callsIn_wide.2 (AnyM.slices_Sort_int_none Try.sortA p cap W)⟩
theorem IMap.keys_perm {w : World} {b : Nat} {l : List Int} (h : IMap w b l) (nd : l.Nodup) (h64 : ∀ x ∈ l, I64 x) :
    ∃ D : DataW Unit, w.ownsMap Try.prog 3 (plainElem Try.prog 3) b l.length D ∧ Maps.size D = l.length ∧ l.Perm (intKeys D) := by
  obtain ⟨D, hown, hsz, hat⟩ := h
  refine ⟨D, hown, hsz, ?_⟩
  obtain ⟨es, hD, hpw, _⟩ := hown.entries intLaw
  obtain ⟨es', hD', hko⟩ := hown.keysOf
  obtain rfl : es = es' := by rw [hD] at hD'; simpa using hD'
  subst hD
  have hk : ∀ p ∈ es, ∃ x, p.1 = .int .i64 x ∧ (Lit.int .i64 x).wf = true := fun p hp => by
    obtain ⟨v, hv⟩ := hko p hp
    obtain ⟨x, _, hx, hw⟩ := Maps.keyOf_i64 Try.underlying3 hv
    exact ⟨x, hx, hw⟩
  refine perm_intKeys hpw (fun p hp => by obtain ⟨x, hx, _⟩ := hk p hp; exact ⟨x, hx⟩) nd fun x => ?_
  constructor
  · intro hx
    exact has_true_of_atKey fun z => by rw [hat x (h64 x hx) z, if_pos hx]
  · intro hh
    rw [has_eq, List.any_eq_true] at hh
    obtain ⟨p, hp, hs⟩ := hh
    obtain ⟨y, hy, hw⟩ := hk p hp
    rw [hy] at hs
    obtain rfl : y = x := by simpa [Lit.sameKey] using hs
    have hy64 : I64 y := by
      simp [Lit.wf, IntKind.min, IntKind.max, IntKind.signed, IntKind.bits] at hw
      exact hw
    rcases Classical.em (y ∈ l) with hm | hm
    · exact hm
    · have hno : has (.map es) (.int .i64 y) = false := has_false_of_atKey fun z => by rw [hat y hy64 z, if_neg hm]
      rw [has_eq, List.any_eq_false] at hno
      exact absurd (by rw [hy]; simp [Lit.sameKey]) (hno p hp)

theorem keys_any (b : Nat) (W : World) : Calls Try.prog 104 #[.map (some b)] W fun e w' => e = .returned (.func (.func 129) #[] #[.pointer (some ⟨W.heap.size, 0, none⟩)]) ∧ w' = W.alloc (.cells #[.map (some b)] 92) :=
  (callsIn_wide (n := 5)).1 (AnyZI.keys_in Try.keysA Fence.wide 5 trivial rfl (some b) W)

theorem sorted_any (b bx : Nat) (l : List Int) (w : World) (h : IMap w b l) (nd : l.Nodup) (h64 : ∀ x ∈ l, I64 x) (hl : l.length ≤ 1099511627776) (hbx : w.heap[bx]? = some (.cells #[.map (some b)] 92)) :
    Calls Try.prog 103 #[.func (.func 129) #[] #[.pointer (some ⟨bx, 0, none⟩)]] w fun e w' => ∃ v, e = .returned v ∧ IntsR w' w.heap.size v (l.mergeSort fun x y => decide (x ≤ y)) ∧ Below w.heap.size w w' := by
  refine (callsIn_wide (n := 5)).1 ?_
  obtain ⟨D, hown, hsz, hp⟩ := h.keys_perm nd h64
  have hseq : SeqGives Fence.wide 2 Try.prog 129 #[.pointer (some ⟨bx, 0, none⟩)] encZ (fun ss => ss.Perm (intKeys D)) (Maps.size D) w :=
    AnyZI.keys_gives (ρ := Try.keysA_ren) { Try.keysA with } Fence.wide _ trivial rfl (by omega) bx b _ D _ (Array.getElem?_eq_some_iff.1 hbx).1 (by simp [World.cell?, hbx]) hown
  have cS := AnyZI.sorted_in Try.sortedA Fence.wide 5 trivial trivial trivial trivial rfl (by omega) (sortsA _) (enters_of Try.func128 (by kernel_rfl) rfl) 129 #[.pointer (some ⟨bx, 0, none⟩)] trivial (enters_of Try.func129 (by kernel_rfl) rfl) _ _ (by rw [hsz]; unfold maxLen; omega) (by rw [hsz]; omega) _ hseq
  refine cS.mono ?_
  rintro e w' ⟨v, ss, rfl, hS, hrow, _, hb⟩
  have hpl : ss.Perm l := hS.trans hp.symm
  have hm := mergeSort_of_perm_i hpl
  have hlen : (l.mergeSort fun x y => decide (x ≤ y)).length = ss.length := by rw [(List.mergeSort_perm l _).length_eq, hpl.length_eq]
  refine ⟨v, rfl, ⟨?_, fun x hx => h64 x ((List.mergeSort_perm l _).mem_iff.1 hx)⟩, hb⟩
  rw [hlen]
  have hm' : (ss.mergeSort fun x y => decide (x ≤ y)) = l.mergeSort fun x y => decide (x ≤ y) := hm
  rw [hm'] at hrow
  exact hrow

end Go.Proofs.Ytdeegdndfblnkaa

namespace Go.Proofs.Ytdeegdndfblnkaa
open Go.RowKit Go.Shelf
set_option maxRecDepth 100000

/-- A row of such binds. -/
def RowN (w : World) (base : Nat) (v : Value) (L S : List Int) : Prop := RowB w base v (S.map (biN L)) (fun _ => False)
theorem RowN.nil_ (w : World) (base : Nat) (L : List Int) : RowN w base (.slice none 0 0) L [] := RowB.nil_ _ _ _
theorem RowN.row {w : World} {base : Nat} {v : Value} {L S : List Int} (h : RowN w base v L S) : w.ownsRow base 77 3 v S.length ((S.map (biN L)).flatMap Bi.cells) := by
  have := RowB.row h
  rwa [List.length_map] at this
theorem RowN.keep {w w' : World} {base : Nat} {v : Value} {L S : List Int} (h : RowN w base v L S) (hv : ∀ g, v.ownBlock = some g → w'.heap[g]? = w.heap[g]?) : RowN w' base v L S := RowB.keep h hv fun _ e => e.elim
theorem RowN.on {w w' : World} {base : Nat} {v : Value} {L S : List Int} (h : RowN w base v L S) (hb : Below w.heap.size w w') : RowN w' base v L S := h.keep fun g e => hb.block g (row_lt h.row g e).2
theorem RowN.push {wr w5 : World} {base : Nat} {v v5 : Value} {L S : List Int} {x : Int} (h : RowN wr base v L S) (hL : L.length ≤ 4611686018427387904) (hx : I64 x) (hown : w5.ownsRow base 77 3 v5 (S.length + 1) ((S.map (biN L)).flatMap Bi.cells ++ [.int .i64 x, .int .i64 (-1 - ((L.idxOf x : Nat) : Int)), .slice none 0 0])) : RowN w5 base v5 L (S ++ [x]) := by
  unfold RowN
  rw [List.map_append]
  exact RowB.push (w := wr) (N := fun _ => False) h (by rw [List.length_map]; exact hown) (biN_fx w5 L hL hx) (fun g e => e.elim) (fun g e => e)
theorem RowN.binds {w : World} {base : Nat} {v : Value} {L S : List Int} (h : RowN w base v L S) (hl : S.length ≤ 9223372036854775807) : ∃ A c, v = .slice A S.length c ∧ Binds w (· < w.heap.size) A (S.map (bdN L)) := by
  obtain ⟨A, c, hv, hB⟩ := RowB.binds (M := (· < w.heap.size)) h (by rw [List.length_map]; exact hl) (fun g e => (row_lt h.row g e).2) (fun g e => e.elim)
  rw [List.length_map] at hv
  rw [biN_bds] at hB
  exact ⟨A, c, hv, hB⟩

theorem RowN.base_ {w : World} {base base' : Nat} {v : Value} {L S : List Int} (h : RowN w base v L S) (hb : base' ≤ base) : RowN w base' v L S := by
  refine ⟨⟨(RowB.row h).1, ?_⟩, RowB.fx h⟩
  rcases (RowB.row h).2 with h0 | ⟨g, cap, cur, hv, h1, hrest⟩
  · exact .inl h0
  · exact .inr ⟨g, cap, cur, hv, Nat.le_trans hb h1, hrest⟩

set_option maxHeartbeats 2000000 in
theorem renaming_any (b : Nat) (l : List Int) (w : World) (h : IMap w b l) (nd : l.Nodup) (h64 : ∀ x ∈ l, I64 x) (hl : l.length ≤ 1099511627776) :
    Calls Try.prog 64 #[.map (some b)] w fun e w' => ∃ v, e = .returned v ∧ RowN w' w.heap.size v l (rnN l) ∧ Below w.heap.size w w' := by
  obtain ⟨i0, hi, hz0, hz1, hz2⟩ := info_parts info_bind
  have hbl := h.lt
  have q0 := heap_alloc_new w (.cells #[.map (some b)] 92)
  obtain ⟨W, hW⟩ : ∃ W, w.alloc (.cells #[.map (some b)] 92) = W := ⟨_, rfl⟩
  have hB : Below w.heap.size w W := by rw [← hW]; exact (Below.refl _ _).alloc (Nat.le_refl _) _
  rw [hW] at q0
  have hS := sorted_any b w.heap.size l W (h.kept (hB.block b hbl)) nd h64 hl q0
  have hkl : (l.mergeSort fun x y => decide (x ≤ y)).length = l.length := (List.mergeSort_perm l _).length_eq
  have hkm : ∀ x ∈ (l.mergeSort fun x y => decide (x ≤ y)), x ∈ l := fun x hx => (List.mergeSort_perm l _).mem_iff.1 hx
  have hrn : rnN l = (l.mergeSort fun x y => decide (x ≤ y)).filter (mvI l) := rfl
  obtain ⟨ks, hks⟩ : ∃ ks, (l.mergeSort fun x y => decide (x ≤ y)) = ks := ⟨_, rfl⟩
  rw [hks] at hS hkl hkm hrn
  have HS := Lib.hid hS
  have HW := Lib.hid hW
  have H := Lib.hid h
  have H64 := Lib.hid h64
  have Hkm := Lib.hid hkm
  have Hrn := Lib.hid hrn
  have Hkl := Lib.hid hkl
  have hkn : ks.length ≤ 1099511627776 := by omega
  clear hW hS h h64 hkm hrn hks nd q0 hkl
  go_enter Try.func64, Try.ntmps64
  go_wp2_with (first
    | (go_at_call 104; refine (keys_any b w).mono ?_; go_must (rintro e w1 ⟨rfl, hw1⟩; rw [HW.out] at hw1; subst hw1))
    | (go_at_call 103; (with_reducible refine HS.out.mono ?_); go_must (rintro e w2 ⟨v, rfl, hI2, hb2⟩; obtain ⟨Av, cv, hv⟩ := row_slice hI2.row; subst hv; have HI2 := Lib.hid hI2; clear hI2))
    | fail)
  have hBw2 : Below w.heap.size w w2 := hB.trans (hb2.mono hB.size)
  have HR0 : Hid (RowN w2 w2.heap.size (.slice none 0 0) l ((ks.take 0).filter (mvI l))) := Lib.hid (by simpa using RowN.nil_ w2 w2.heap.size l)
  clear hb2
  go_loopw [3, 11] (fun s i wr => ∃ k : Nat, k ≤ ks.length ∧ i = .int .i64 (k : Int) ∧ Below w2.heap.size w2 wr ∧ Hid (RowN wr w2.heap.size s l ((ks.take k).filter (mvI l)))) (fun _ i _ => ks.length - (intOf i).toNat)
  case atStart => exact ⟨0, Nat.zero_le _, rfl, Below.refl _ _, HR0⟩
  case round =>
    obtain ⟨k, hk, rfl, hBr, HR⟩ := hrel
    have hBw : Below w.heap.size w wr := hBw2.trans (hBr.mono hBw2.size)
    by_cases hlt : k < ks.length
    · obtain ⟨x, hx⟩ : ∃ x, ks[k]? = some x := ⟨_, List.getElem?_eq_getElem hlt⟩
      obtain ⟨g, c', hv, hg, hc⟩ := HI2.out.get hx
      injection hv with hv1 _ hv3
      subst hv1
      have e0 := cell_on hBr hg hc
      have hxl := Hkm.out x (List.mem_of_getElem? hx)
      have hx64 := H64.out x hxl
      have hlk := (H.out.kept (hBw.block b hbl)).look1 hx64
      rw [if_pos hxl] at hlk
      have hid := List.idxOf_lt_length_of_mem hxl
      have hpush : ∀ (w5 : World) (v5 : Value), w5.ownsRow w2.heap.size 77 3 v5 (((ks.take k).filter (mvI l)).length + 1) ((((ks.take k).filter (mvI l)).map (biN l)).flatMap Bi.cells ++ [.int .i64 x, .int .i64 (-1 - ((l.idxOf x : Nat) : Int)), .slice none 0 0]) → RowN w5 w2.heap.size v5 l (((ks.take k).filter (mvI l)) ++ [x]) := fun _ _ ho => HR.out.push (by have := Hkl.out; omega) hx64 ho
      have hmv : mvI l x = !decide (((l.idxOf x : Nat) : Int) = x) := rfl
      have hfl : (ks.take (k + 1)).filter (mvI l) = (ks.take k).filter (mvI l) ++ (if mvI l x = true then [x] else []) := by
        rw [List.take_add_one, hx, List.filter_append]
        simp only [Option.toList, List.filter_cons, List.filter_nil]
      have hrow := HR.out.row
      have hfn : ((ks.take k).filter (mvI l)).length ≤ 1099511627776 := Nat.le_trans (List.length_filter_le _ _) (by rw [List.length_take]; omega)
      obtain ⟨d, hd⟩ : ∃ d, l.idxOf x = d := ⟨_, rfl⟩
      rw [hd] at hlk hid hmv hpush
      obtain ⟨R, hR⟩ : ∃ R, (ks.take k).filter (mvI l) = R := ⟨_, rfl⟩
      rw [hR] at hfl hrow hpush HR hfn
      have hdl : d ≤ 1099511627776 := by have := Hkl.out; omega
      have Hfl := Lib.hid hfl
      have Hpush := Lib.hid hpush
      have Hmv := Lib.hid hmv
      obtain ⟨Rc, hRc⟩ : ∃ Rc, (R.map (biN l)).flatMap Bi.cells = Rc := ⟨_, rfl⟩
      rw [hRc] at hrow Hpush
      have hrl := row_lt hrow
      have hx1 := hx64.1
      have hx2 := hx64.2
      clear hx hc hxl hmv hfl hd hR hpush hRc
      by_cases hne : ((d : Nat) : Int) = x
      · have hnf : (((d : Nat) : Int) != x) = false := by simp [hne]
        have hst : Hid ((ks.take (k + 1)).filter (mvI l) = R) := Lib.hid (by rw [Hfl.out, Hmv.out, if_neg (by simp [hne])]; simp)
        clear hne
        go_wp2
        go_roundw
        case rel => exact ⟨k + 1, by omega, by go_num, hBr, by rw [hst.out]; exact HR⟩
        case measure => simp [intOf]; omega
      · have hnt : (((d : Nat) : Int) != x) = true := by simp [hne]
        have hst : Hid ((ks.take (k + 1)).filter (mvI l) = R ++ [x]) := Lib.hid (by rw [Hfl.out, Hmv.out, if_pos (by simp [hne])])
        clear hne
        obtain ⟨Ar, cr, hs⟩ := row_own hrow
        subst hs
        have Hrow := Lib.hid hrow
        have hzr := hBr.size
        clear hrow
        go_wp2_with (first
          | (at_builtin
             go_must (
             refine wpList_append_own_at _ rfl _ _ 23 rfl w2.heap.size 77 i0 (.agg #[.int .i64 0, .int .i64 0, .slice none 0 0]) 3 40 Try.underlying23 hi hz0 hz1 hz2 rfl (by decide) (.slice Ar R.length cr) R.length _ rfl (row_keep Hrow.out fun g e => Below.heap_alloc wr _ g (hrl g e).2) ⟨wr.heap.size, 0, none⟩ 1 1 [.int .i64 x, .int .i64 (-1 - ((d : Nat) : Int)), .slice none 0 0] rfl rfl (cells_new_bind _ _ _ _ _) (by simp [Value.oneCell']) (by unfold maxLen; omega) (by omega) (by simp; omega) ?_
             intro v5 w5 hown5 hgr5 _ hat5
             have Hown5 := Lib.hid hown5
             have hB5 : Below w2.heap.size w2 w5 := (hBr.alloc hzr _).grown hgr5 (by simp; omega) (fun g e => (hrl g e).1)
             clear hown5 hgr5 hat5))
          | fail)
        exact ⟨⟨v5, _, _, .int .i64 ((k + 1 : Nat) : Int), ⟨k + 1, by omega, rfl, by rw [hst.out]; exact Lib.hid (Hpush.out _ _ Hown5.out)⟩, rfl, rfl, rfl, by simp⟩, by simp [intOf]; omega⟩
    · obtain rfl : k = ks.length := by omega
      rw [List.take_length] at HR
      rw [← Hrn.out] at HR
      go_wp2
      go_ret
      refine ⟨_, rfl, ?_, hBw⟩
      exact RowN.base_ HR.out hBw2.size

end Go.Proofs.Ytdeegdndfblnkaa

namespace Go.Proofs.Ytdeegdndfblnkaa
open Go.RowKit Go.Shelf
set_option maxRecDepth 100000

mutual
theorem VT_of {V : Int → Prop} : ∀ t : Tm, (∀ v ∈ vn t, V v) → VT V t
  | .node f xs => fun h => by
    simp only [vn] at h
    simp only [VT]
    exact ⟨fun hf => h _ (by simp [hf]), VL_of xs fun v hv => h v (List.mem_append.2 (.inr hv))⟩
theorem VL_of {V : Int → Prop} : ∀ xs : List Tm, (∀ v ∈ vnL xs, V v) → VL V xs
  | [] => fun _ => by simp only [VL]
  | t :: ts => fun h => by
    simp only [vnL] at h
    simp only [VL]
    exact ⟨VT_of t fun v hv => h v (List.mem_append.2 (.inl hv)), VL_of ts fun v hv => h v (List.mem_append.2 (.inr hv))⟩
end
theorem mem_vnL {x : Int} : ∀ ys : List Tm, x ∈ vnL ys → ∃ u ∈ ys, x ∈ vn u
  | [], h => by simp [vnL] at h
  | y :: ys, h => by
    simp only [vnL, List.mem_append] at h
    rcases h with h | h
    · exact ⟨y, by simp, h⟩
    · obtain ⟨u, hu, h⟩ := mem_vnL ys h
      exact ⟨u, by simp [hu], h⟩
theorem varI64 {w : World} {N : Nat → Prop} (t : Tm) : ∀ {A : Option Addr}, I64 t.fn → ArgsN w N A t.args → ∀ x ∈ vn t, I64 x := by
  refine Tm.ind (P := fun t => ∀ {A : Option Addr}, I64 t.fn → ArgsN w N A t.args → ∀ x ∈ vn t, I64 x) (fun f xs ih => ?_) t
  intro A hf hA x hx
  simp only [Tm.fn, Tm.args] at hf hA
  simp only [vn, List.mem_append] at hx
  rcases hx with hx | hx
  · split at hx
    · simp only [List.mem_cons, List.not_mem_nil, or_false] at hx
      subst hx
      exact ⟨by have := hf.1; omega, by have := hf.1; omega⟩
    · simp at hx
  · obtain ⟨u, hu, h⟩ := mem_vnL xs hx
    obtain ⟨i, hi⟩ := List.mem_iff_getElem?.1 hu
    obtain ⟨b, off, A', c', rfl, ha⟩ := hA.get hi
    exact ih u hu ha.hi ha.sub x h
theorem mem_vnC {x : Int} : ∀ cl : List Lt, x ∈ vnC cl → ∃ u ∈ cl, x ∈ vn u.l ∨ x ∈ vn u.r
  | [], h => by simp [vnC] at h
  | y :: ys, h => by
    simp only [vnC, List.mem_append] at h
    rcases h with h | h | h
    · exact ⟨y, by simp, .inl h⟩
    · exact ⟨y, by simp, .inr h⟩
    · obtain ⟨u, hu, h⟩ := mem_vnC ys h
      exact ⟨u, by simp [hu], h⟩
theorem lits_i64 {w : World} {N : Nat → Prop} {A : Option Addr} {cl : List Lt} (hA : Lits w N A cl) : ∀ x ∈ vnC cl, I64 x := by
  intro x hx
  obtain ⟨u, hu, h⟩ := mem_vnC cl hx
  obtain ⟨i, hi⟩ := List.mem_iff_getElem?.1 hu
  obtain ⟨b, off, A1, c1, A2, c2, rfl, _, ha⟩ := hA.get hi
  rcases h with h | h
  · exact varI64 u.l ha.il ha.sl x h
  · exact varI64 u.r ha.ir ha.sr x h
theorem ord_mem : ∀ (r l : List Int) (v : Int), v ∈ r.foldl ordI l → v ∈ l ∨ v ∈ r
  | [], l, v, h => .inl h
  | u :: r, l, v, h => by
    rcases ord_mem r (ordI l u) v h with h | h
    · unfold ordI at h
      split at h
      · exact .inl h
      · rcases List.mem_append.1 h with h | h
        · exact .inl h
        · simp at h; subst h; exact .inr (by simp)
    · exact .inr (by simp [h])
theorem ordC_i64 {w : World} {N : Nat → Prop} {A : Option Addr} {cl : List Lt} (hA : Lits w N A cl) : ∀ x ∈ (vnC cl).foldl ordI [], I64 x := fun x hx => by
  rcases ord_mem _ _ _ hx with h | h
  · simp at h
  · exact lits_i64 hA x h

/-- What Normal makes of a clause. -/
def NormPost (cl : List Lt) (w : World) (e : Ending) (w' : World) : Prop :=
  ∃ A' c' v, e = .returned (.tuple #[.slice A' cl.length c', v]) ∧ Lits w' (fun g => w.heap.size ≤ g ∧ g < w'.heap.size) A' (nuC ((vnC cl).foldl ordI []) cl) ∧ RowN w' w.heap.size v ((vnC cl).foldl ordI []) (rnN ((vnC cl).foldl ordI [])) ∧ Below w.heap.size w w'

set_option maxHeartbeats 2000000 in
theorem Normal_any (cl : List Lt) (hlen : cl.length ≤ 1048576) (hsz : ∀ x ∈ cl, x.l.size ≤ 4398046511104 ∧ x.r.size ≤ 4398046511104) (hU : (vnC cl).length ≤ 1099511627776) (A : Option Addr) (c : Nat) (w : World) (hA : Lits w (· < w.heap.size) A cl) :
    Calls Try.prog 27 #[.slice A cl.length c] w (NormPost cl w) := by
  have hmm : ∀ w : World, (Instr.makeMap 92 none).run Try.prog w = .ok (.map (some w.heap.size)) (w.alloc (.map #[] 0)) := fun _ => run_makeMap_plain (w := _) _
  obtain ⟨q0, q1, q2⟩ := heap3 w (.map #[] 0) (.cells #[.map (some w.heap.size)] 92) (.cells #[.func (.func 61) #[] #[.pointer (some ⟨w.heap.size + 1, 0, none⟩)]] 94)
  have hIM := IMap.made w
  obtain ⟨W, hW⟩ : ∃ W, (((w.alloc (.map #[] 0)).alloc (.cells #[.map (some w.heap.size)] 92)).alloc (.cells #[.func (.func 61) #[] #[.pointer (some ⟨w.heap.size + 1, 0, none⟩)]] 94)) = W := ⟨_, rfl⟩
  have hB : Below w.heap.size w W := by rw [← hW]; exact (((Below.refl _ _).alloc (Nat.le_refl _) _).alloc (by simp) _).alloc (by simp; omega) _
  rw [hW] at q0 q1 q2
  have hWz : W.heap.size = w.heap.size + 3 := by rw [← hW]; simp
  have hI64 := ordC_i64 hA
  have hnd : ((vnC cl).foldl ordI []).Nodup := ord_nodup _ _ .nil
  have hLl : ((vnC cl).foldl ordI []).length ≤ 1099511627776 := by have := ord_len (vnC cl) []; simp at this; omega
  have hIW : IMap W w.heap.size [] := hIM.kept (q0.trans (heap_alloc_new w _).symm)
  have hnum := number_num (vnC cl) (by omega) (w.heap.size + 1) w.heap.size W.heap.size (by omega) (· < w.heap.size) (fun g e => by omega) (fun g e => by omega) (by omega) (by omega)
  have hchg := normal2_chg hnum (w.heap.size + 2) (by omega) (by omega)
  obtain ⟨hp1, hp2⟩ := normal_plain cl
  have hl2 : (litsL (renT nxI) [] cl).2.length = cl.length := litsL_len _ _ _
  have hlit := literals_any hchg cl (by omega) (fun x hx => ⟨⟨(hsz x hx).1, VT_of _ (vnC_mem hx).1⟩, ⟨(hsz x hx).2, VT_of _ (vnC_mem hx).2⟩⟩) [] A c W (Nat.le_refl _) ⟨⟨q1, hIW, .nil, by simp⟩, q2⟩ (hA.keep fun g e => hB.block g e)
  rw [hl2, hp1, hp2] at hlit
  obtain ⟨L, hL⟩ : ∃ L, (vnC cl).foldl ordI [] = L := ⟨_, rfl⟩
  unfold NormPost
  rw [hL] at hlit hI64 hnd hLl ⊢
  have Hlit := Lib.hid hlit
  have HW := Lib.hid hW
  have H64 := Lib.hid hI64
  clear hlit hW hI64 hchg hnum hA hsz hp1 hp2 hl2 hIM hIW hL
  go_enter Try.func27, Try.ntmps27
  go_upto_region 3 with fail
  rw [HW.out]
  go_wp2_with (first
    | (go_at_call 60; (with_reducible refine Hlit.out.mono ?_); go_must (rintro e w1 ⟨A1, c1, rfl, hL1, hI1, hk1⟩; have hc4 := hI1.1.box.cell; have hren := Lib.hid (renaming_any w.heap.size L w1 hI1.1.map hnd H64.out hLl); have HL1 := Lib.hid hL1; clear hL1 hI1))
    | (go_at_call 64; (with_reducible refine hren.out.mono ?_); go_must (rintro e w2 ⟨v, rfl, hR2, hb2⟩; have HR2 := Lib.hid hR2; clear hR2))
    | fail)
  have hB1 : Below w.heap.size w w1 := hB.trans (Keeps.below hk1 fun g hg => ⟨by omega, by omega⟩)
  go_ret2
  refine ⟨A1, c1, v, rfl, (HL1.out.keep fun g e => hb2.block g e.2).wide fun g e => ⟨by omega, by have := hb2.size; omega⟩, ?_, hB1.trans (hb2.mono hB1.size)⟩
  exact RowN.base_ HR2.out hB1.size

end Go.Proofs.Ytdeegdndfblnkaa
