/- slices.SortFunc at a row of binds. slices.SortFunc at no bind; slices.DeleteFunc at a row of binds. -/
import Derived.Test.YtdeegdndfblnkaaU15
import Derived.Test.YtdeegdndfblnkaaS3
namespace Go.Proofs.Ytdeegdndfblnkaa
open Go.RowKit Go.Shelf
set_option maxRecDepth 100000

instance : Inhabited Bi := ⟨⟨0, .node 0 [], none, 0⟩⟩
/-- How two binds stand. -/
def cmpB (x y : Bi) : Int := numI x.v y.v
theorem ltB (x y : Bi) : ltOf cmpB x y = decide (x.v < y.v) := by
  unfold ltOf cmpB numI
  split
  · simp [*]
  · split
    · simp [*]
    · simp [*]
theorem swoB : Sort.SWO (ltOf cmpB) where
  irrefl x := by rw [ltB]; simp
  trans x y z h1 h2 := by rw [ltB] at *; simp at *; omega
  ntrans x y z h1 h2 := by rw [ltB] at *; simp at *; omega

theorem cmpNum_eq (a b : Int) (w : World) :
    Calls Try.prog 94 #[.int .i64 a, .int .i64 b] w fun e w' => e = .returned (.int .i64 (numI a b)) ∧ w = w' := by
  go_enter Try.func94, Try.ntmps94
  go_wp2
  all_goals
    go_ret
    first
      | exact ⟨ret_int (numI_lt (by omega)).symm, rfl⟩
      | exact ⟨ret_int (numI_gt (by omega)).symm, rfl⟩
      | exact ⟨ret_int (numI_eq (by omega) (by omega)).symm, rfl⟩

theorem byVariable_lays (x y : Bi) (W : World) : Calls Try.prog 86 #[.agg x.cells.toArray, .agg y.cells.toArray] W fun e w' => e = .returned (.int .i64 (cmpB x y)) ∧ ∃ q os', w' = Sort.grow (W.drewN q) os' := by
  unfold cmpB
  change Calls _ _ #[.agg #[.int .i64 x.v, .int .i64 x.t.fn, .slice x.A x.t.args.length x.c], .agg #[.int .i64 y.v, .int .i64 y.t.fn, .slice y.A y.t.args.length y.c]] W _
  go_enter Try.func86, Try.ntmps86
  go_wp2_with (first
    | (go_at_call 94; refine (cmpNum_eq x.v y.v _).mono ?_; go_must (rintro e w1 ⟨rfl, rfl⟩))
    | fail)
  go_ret
  exact ⟨rfl, 0, _, by rw [Sort.alloc_eq_grow, Sort.alloc_eq_grow, Sort.grow_grow]; rfl⟩
theorem cmpLaysB (blk off size : Nat) (w : World) : CmpLays Try.prog 86 #[] Bi.cells 3 cmpB blk off size w :=
  fun _ _ _ _ x y => byVariable_lays x y _

theorem bitsLen_any (n : Nat) (w : World) (h : n ≤ 18446744073709551615) : Calls Try.prog 120 #[.int .u64 (n : Int)] w fun e w' => e = .returned (.int .i64 (Lib.bitLen n : Nat)) ∧ w' = w := by
  have h := Any.bits_Len Try.lays125 (n : Int) w (by omega) (by omega)
  rwa [Int.toNat_natCast] at h

theorem flatB (l : List Bi) : (Sort.flatK Bi.cells 3 l.toArray).toList = l.flatMap Bi.cells := by
  apply List.ext_getElem?
  intro t
  rcases Nat.lt_or_ge t (l.length * 3) with h | h
  · have hs : t < (Sort.flatK Bi.cells 3 l.toArray).size := by simpa using h
    have hg := Sort.get_flatK Bi.cells 3 l.toArray t (by simpa using h)
    rw [getElem!_pos _ t hs] at hg
    have hi : t / 3 < l.length := by omega
    have hb := bi_get l (t / 3) (t % 3) (Nat.mod_lt _ (by omega))
    rw [show t / 3 * 3 + t % 3 = t by omega, List.getElem?_eq_getElem hi] at hb
    have he : l.toArray[t / 3]! = l[t / 3] := by rw [getElem!_pos l.toArray (t / 3) (by simpa using hi)]; exact List.getElem_toArray _
    rw [he] at hg
    rw [hb, Array.getElem?_toList, Array.getElem?_eq_getElem hs, hg]
    have h3 : t % 3 < (l[t / 3]).cells.length := Nat.mod_lt _ (by decide)
    rw [getElem!_pos (l[t / 3]).cells (t % 3) h3]
    exact (List.getElem?_eq_getElem h3).symm
  · rw [List.getElem?_eq_none (by simpa using h), List.getElem?_eq_none (by rw [bi_len]; exact h)]

theorem bi_one (l : List Bi) : ∀ u ∈ l.flatMap Bi.cells, u.oneCell' = true := by
  intro u hu
  obtain ⟨x, _, hx⟩ := List.mem_flatMap.1 hu
  simp only [Bi.cells, List.mem_cons, List.not_mem_nil, or_false] at hx
  rcases hx with rfl | rfl | rfl <;> rfl

theorem holdsB {w : World} {g : Nat} {l : List Bi} {cur : Array Value} {e : TypeId} (hg : w.heap[g]? = some (.cells cur e (0, 0))) (ht : cur.toList.take (l.length * 3) = l.flatMap Bi.cells) : Sort.HoldsK Bi.cells 3 w g 0 l.toArray := by
  intro j hj
  rw [Sort.size_flatK] at hj
  have hj' : j < l.length * 3 := by simpa using hj
  have h1 : (l.flatMap Bi.cells)[j]? = cur[j]? := by rw [← ht, List.getElem?_take, if_pos hj', Array.getElem?_toList]
  have h2 : (Sort.flatK Bi.cells 3 l.toArray)[j]? = cur[j]? := by rw [← h1, ← flatB, Array.getElem?_toList]
  have hs : j < (Sort.flatK Bi.cells 3 l.toArray).size := by simpa using hj'
  rw [getElem!_pos _ j hs, Nat.zero_add]
  rw [Array.getElem?_eq_getElem hs] at h2
  refine ⟨?_, ?_⟩
  · simp [World.cell?, hg, ← h2]
  · simp [World.frozen?, hg]

theorem sortedB {w : World} {base g cap n : Nat} {l : List Bi} {d : Array Bi} {os : Array Obj} {cur : Array Value} {N : Nat → Prop} (hb : base ≤ g) (hg : w.heap[g]? = some (.cells cur 77 (0, 0))) (hc : l.length ≤ cap) (hm : cap ≤ maxLen) (hs : cur.size = cap * 3)
    (hN : ∀ k, N k → k ≠ g ∧ k < w.heap.size) (hfx : ∀ x ∈ l, BiFx w N x) (hd : d.size = l.length) (hp : d.toList.Perm l) :
    RowB (sortWorldK Bi.cells 3 w g 0 n d os) base (.slice (some ⟨g, 0, none⟩) l.length cap) d.toList N ∧ w.grownBy (sortWorldK Bi.cells 3 w g 0 n d os) (some g) := by
  have hlt := (Array.getElem?_eq_some_iff.1 hg).1
  have hdl : d.toList.length = l.length := by rw [Array.length_toList]; exact hd
  have hoth : ∀ k, k < w.heap.size → k ≠ g → (sortWorldK Bi.cells 3 w g 0 n d os).heap[k]? = w.heap[k]? := by
    intro k hk hne
    unfold sortWorldK Sort.grow Sort.putRowK Sort.putRow Sort.mapBlock Sort.ahead
    simp only
    rw [Array.getElem?_append_left (by simpa using hk), Array.getElem?_modify, if_neg (fun e => hne e.symm)]
  have hsame : (sortWorldK Bi.cells 3 w g 0 n d os).heap[g]? = some (.cells (Sort.putCells id 0 (Sort.flatK Bi.cells 3 d) cur) 77 (0, 0)) := by
    unfold sortWorldK Sort.grow Sort.putRowK Sort.putRow Sort.mapBlock Sort.ahead
    simp only
    rw [Array.getElem?_append_left (by simpa using hlt), Array.getElem?_modify, if_pos rfl, hg]
    rfl
  refine ⟨⟨⟨by rw [bi_len], .inr ⟨g, cap, _, by rw [hdl], hb, hsame, by rw [hdl]; exact hc, hm, by simp [Sort.putCells, hs], ?_⟩⟩, fun x hx => (hfx x (hp.mem_iff.1 hx)).keep fun k hk => hoth k (hN k hk).2 (hN k hk).1⟩, ⟨rfl, rfl, rfl, ?_, fun k hk hne => hoth k hk fun e => hne (by rw [e])⟩⟩
  · rw [show d = d.toList.toArray from (Array.toArray_toList).symm, ← flatB]
    apply List.ext_getElem?
    intro t
    have hle : d.size * 3 ≤ cur.size := by rw [hs, hd]; exact Nat.mul_le_mul_right 3 hc
    rcases Nat.lt_or_ge t (d.size * 3) with h | h
    · have h1 : t < (Sort.flatK Bi.cells 3 d).size := by simpa using h
      rw [List.getElem?_take, if_pos (by simpa using h), Array.getElem?_toList, Array.getElem?_toList, Array.toArray_toList]
      unfold Sort.putCells
      rw [Array.getElem?_mapIdx, Array.getElem?_eq_getElem (show t < cur.size by omega)]
      simp only [Option.map_some, Nat.sub_zero]
      rw [if_pos ⟨Nat.zero_le _, by simpa using h⟩, getElem!_pos _ t h1, Array.getElem?_eq_getElem h1]
      rfl
    · rw [List.getElem?_eq_none (by simp; omega), List.getElem?_eq_none (by simpa using h)]
  · unfold sortWorldK Sort.grow Sort.putRowK Sort.putRow Sort.mapBlock Sort.ahead
    simp

/-- A row of binds that has been sorted. -/
def SortPost (l : List Bi) (v : Value) (base : Nat) (N : Nat → Prop) (w : World) (e : Ending) (w' : World) : Prop :=
  e = .returned (.tuple #[]) ∧ ∃ l', l'.Perm l ∧ l'.Pairwise (fun x y => x.v ≤ y.v) ∧ RowB w' base v l' N ∧ w.grownBy w' v.ownBlock

theorem sortedIn_pairwise {d : Array Bi} (h : Sort.SortedIn (ltOf cmpB) 0 d.size d) : d.toList.Pairwise fun x y => x.v ≤ y.v := by
  rw [List.pairwise_iff_getElem]
  intro i j hi hj hij
  have hj' : j < d.size := by simpa using hj
  have := h i j (Nat.zero_le _) hij hj'
  rw [getElem!_pos d i (by omega), getElem!_pos d j hj', ltB] at this
  simp only [Array.getElem_toList]
  simpa using this

set_option maxHeartbeats 1000000 in
theorem sort_some (l : List Bi) (v : Value) (base : Nat) (N : Nat → Prop) (w : World) (h : RowB w base v l N) (hrow : ∃ g cap cur, v = .slice (some ⟨g, 0, none⟩) l.length cap ∧ base ≤ g ∧ w.heap[g]? = some (.cells cur 77 (0, 0)) ∧ l.length ≤ cap ∧ cap ≤ maxLen ∧ cur.size = cap * 3 ∧ cur.toList.take (l.length * 3) = l.flatMap Bi.cells) (hl2 : l.length ≤ 4194304) (hN : ∀ k, N k → v.ownBlock ≠ some k ∧ k < w.heap.size) :
    Calls Try.prog 85 #[v, .func (.func 86) #[] #[]] w (SortPost l v base N w) := by
  obtain ⟨g, cap, cur, rfl, hb, hg, hc, hm, hs, ht⟩ := hrow
  · have hlt := (Array.getElem?_eq_some_iff.1 hg).1
    have eg : ∀ args w, (callFunc 86 args).run Try.prog w = .ok (.enter 86 args) w := enters_of Try.func86 (by kernel_rfl) rfl
    have hH := holdsB hg ht
    have hlim : Lib.bitLen l.length < 4611686018427387904 := Nat.lt_of_le_of_lt (Lib.bitLen_le l.length 62 (by omega) (by omega)) (by omega)
    have hpq := AnyQ.pdqsortCmpFunc_all Try.pdqB 3 Try.isAgg77 Try.sizeOf77 Bi.cells cmpB 86 #[] swoB g 0 cap l.toArray w eg (cmpLaysB g 0 l.toArray.size w) ⟨fun _ => rfl, fun x u hu => bi_one [x] u (by simpa using hu), hH, hlt⟩ (l.toArray.size + 1) 0 l.toArray.size (Lib.bitLen l.length) l.toArray w (by omega) rfl (SWK.start hH) (Nat.zero_le _) (Nat.le_refl _) (by simp; omega) hlim (Or.inl rfl)
    have hsort := Sort.pdq_sorts (ltOf cmpB) swoB l.toArray 0 l.toArray.size (Lib.bitLen l.length) true true (Nat.zero_le _) (Nat.le_refl _) (Or.inl rfl)
    change Calls Try.prog 119 _ _ _ at hpq
    rw [show l.toArray.size = l.length by simp] at hpq hsort
    have hbl := bitsLen_any l.length w (by omega)
    have HB := Lib.hid hbl
    have hwr : IntKind.u64.wrap (l.length : Int) = l.length := by simp [IntKind.wrap, IntKind.bits, IntKind.signed]; omega
    obtain ⟨d, hd⟩ : ∃ d, Sort.pdq (ltOf cmpB) l.toArray 0 l.length (Lib.bitLen l.length) true true = d := ⟨_, rfl⟩
    rw [hd] at hsort
    rw [hd] at hpq
    have HP := Lib.hid hpq
    have hfin : ∀ w', SWK Bi.cells 3 w g 0 d w' → SortPost l (.slice (some ⟨g, 0, none⟩) l.length cap) base N w (.returned (.tuple #[])) w' := by
      rintro w' ⟨n, os, rfl⟩
      have hsz := hsort.1.1
      simp only [List.size_toArray] at hsz
      have hp : d.toList.Perm l := by
        have := hsort.1.2.2
        have e1 : d.extract 0 l.length = d := by rw [← hsz]; exact Array.extract_size
        have e2 : l.toArray.extract 0 l.length = l.toArray := by rw [show l.length = l.toArray.size by simp]; exact Array.extract_size
        rw [e1, e2] at this
        exact this
      obtain ⟨r1, r2⟩ := sortedB (n := n) (os := os) hb hg hc hm hs (fun k hk => ⟨fun e => (hN k hk).1 (by rw [e]; rfl), (hN k hk).2⟩) h.fx hsz hp
      exact ⟨rfl, _, hp, sortedIn_pairwise (by rw [hsz]; exact hsort.2), r1, r2⟩
    have HF := Lib.hid hfin
    clear hpq hbl hsort hfin hH eg hg ht hs hN h hlim
    go_enter Try.func85, Try.ntmps85
    go_wp2_with (first
      | (go_at_call 120; (with_reducible refine HB.out.mono ?_); go_must (rintro e w1 ⟨rfl, hw1⟩; obtain rfl := hw1.symm))
      | (go_at_call 119; refine HP.out.mono ?_; go_must (rintro e w2 ⟨rfl, hw2⟩; have hw2 := Lib.hid hw2))
      | fail)
    go_end0
    exact HF.out _ hw2.out
end Go.Proofs.Ytdeegdndfblnkaa

namespace Go.Proofs.Ytdeegdndfblnkaa
open Go.RowKit Go.Shelf
set_option maxRecDepth 100000

theorem insert_none (w : World) : Calls Try.prog 140 #[.slice none 0 0, .int .i64 0, .int .i64 0, .func (.func 86) #[] #[]] w fun e w' => e = .returned (.tuple #[]) ∧ w = w' := by
  go_enter Try.func140, Try.ntmps140
  go_wp2
  go_loop [8] (fun i => i = .int .i64 1) (fun _ => 0)
  case atStart => rfl
  case round =>
    subst hrel
    go_wp2
    go_end0
    exact ⟨rfl, rfl⟩
theorem pdq_none (w : World) : Calls Try.prog 119 #[.slice none 0 0, .int .i64 0, .int .i64 0, .int .i64 0, .func (.func 86) #[] #[]] w fun e w' => e = .returned (.tuple #[]) ∧ w = w' := by
  go_enter Try.func119, Try.ntmps119
  go_wp2
  go_loop [1, 2, 3] (fun a b c => a = .int .i64 0 ∧ b = .int .i64 0 ∧ c = .int .i64 0) (fun _ _ _ => 0)
  case atStart => exact ⟨rfl, rfl, rfl⟩
  case round =>
    obtain ⟨rfl, rfl, rfl⟩ := hrel
    go_wp2_with (first
      | (go_at_call 140; refine (insert_none w).mono ?_; go_must (rintro e w1 ⟨rfl, rfl⟩))
      | fail)
    exact bodyPost_ret (v := .tuple #[]) (by simp [results, Try.results119, go_sem]) rfl ⟨rfl, rfl⟩

theorem sort_any (l : List Bi) (v : Value) (base : Nat) (N : Nat → Prop) (w : World) (h : RowB w base v l N) (hl2 : l.length ≤ 4194304) (hN : ∀ k, N k → v.ownBlock ≠ some k ∧ k < w.heap.size) :
    Calls Try.prog 85 #[v, .func (.func 86) #[] #[]] w (SortPost l v base N w) := by
  rcases Nat.eq_zero_or_pos l.length with h0 | h0
  · rcases h.row.2 with ⟨rfl, _⟩ | hs
    · obtain rfl : l = [] := List.eq_nil_of_length_eq_zero h0
      have HR := Lib.hid h
      have hb := bitsLen_any 0 w (by omega)
      have HB := Lib.hid (show Calls Try.prog 120 #[.int .u64 0] w fun e w' => e = .returned (.int .i64 0) ∧ w' = w from hb)
      clear h hb hN
      go_enter Try.func85, Try.ntmps85
      go_wp2_with (first
        | (go_at_call 120; (with_reducible refine HB.out.mono ?_); go_must (rintro e w1 ⟨rfl, hw1⟩; obtain rfl := hw1.symm))
        | (go_at_call 119; refine (pdq_none w).mono ?_; go_must (rintro e w2 ⟨rfl, rfl⟩))
        | fail)
      go_end0
      exact ⟨rfl, [], .refl _, .nil, HR.out, World.grownBy.refl w _⟩
    · exact sort_some l v base N w h hs hl2 hN
  · rcases h.row.2 with ⟨_, e⟩ | hs
    · omega
    · exact sort_some l v base N w h hs hl2 hN
end Go.Proofs.Ytdeegdndfblnkaa
