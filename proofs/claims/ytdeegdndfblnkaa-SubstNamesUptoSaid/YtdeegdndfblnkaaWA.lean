/- The functions on names and on one symbol, and a symbol's place: what each call answers. One symbol: is its name one, may it be; $true. One symbol by the plain answer; $true; a symbol's place; two signatures. Copies; the plain check of a signature. -/
import Derived.Test.YtdeegdndfblnkaaL0
import Derived.Test.YtdeegdndfblnkaaL1
namespace Go.Proofs.Ytdeegdndfblnkaa
open Go.RowKit

def nameC (c : Int) : Bool := decide ((97 ≤ c ∧ c ≤ 122) ∨ (65 ≤ c ∧ c ≤ 90) ∨ (48 ≤ c ∧ c ≤ 57) ∨ c = 95)
theorem nameC_true {c : Int} (h : (97 ≤ c ∧ c ≤ 122) ∨ (65 ≤ c ∧ c ≤ 90) ∨ (48 ≤ c ∧ c ≤ 57) ∨ c = 95) : nameC c = true := by simpa [nameC] using h
theorem nameC_false {c : Int} (h : ¬ ((97 ≤ c ∧ c ≤ 122) ∨ (65 ≤ c ∧ c ≤ 90) ∨ (48 ≤ c ∧ c ≤ 57) ∨ c = 95)) : nameC c = false := by simpa [nameC] using h

/-- Are all bytes of a text a name's? -/
def nameAll (l : List UInt8) : Bool := l.all fun c => nameC c.toNat
theorem take_snoc (s : ByteArray) (k : Nat) (h : k < s.size) : s.data.toList.take (k + 1) = s.data.toList.take k ++ [s[k]] := by
  rw [List.take_succ_eq_append_getElem (by simpa using h)]; rfl
theorem nameAll_snoc (l : List UInt8) (c : UInt8) : nameAll (l ++ [c]) = (nameAll l && nameC c.toNat) := by simp [nameAll]
theorem nameAll_cut {l : List UInt8} {k : Nat} (h : nameAll (l.take k) = false) : nameAll l = false := by
  cases hl : nameAll l with
  | false => rfl
  | true =>
    unfold nameAll at hl h
    rw [List.all_eq_true] at hl
    rw [List.all_eq_false] at h
    obtain ⟨x, hx, hf⟩ := h
    exact absurd (hl x (List.mem_of_mem_take hx)) hf

end Go.Proofs.Ytdeegdndfblnkaa

namespace Go.Proofs.Ytdeegdndfblnkaa
open Go.RowKit

/-- Is a text a name? -/
def namedB (s : ByteArray) : Bool := decide (1 ≤ s.size) && decide (s.size ≤ 40) && nameAll s.data.toList
/-- What may be wrong with a symbol that is not $true: 0, 111 or 112. -/
def oneI (name : ByteArray) (arity : Int) : Int := if namedB name = false then 111 else if arity < 0 ∨ 6 < arity then 112 else 0

set_option maxHeartbeats 1000000 in
theorem Named_any (s : ByteArray) (w : World) (hs : s.size ≤ maxLen) :
    Calls Try.prog 156 #[.string s] w fun e w' => e = .returned (.bool (namedB s)) ∧ w = w' := by
  unfold maxLen at hs
  by_cases h0 : s.size < 1
  · have hf := Lib.hid (show namedB s = false by simp [namedB]; omega)
    go_enter Try.func156, Try.ntmps156
    go_wp2_with fail
    go_ret
    exact ⟨ret_bool hf.out.symm, rfl⟩
  · by_cases h1 : 40 < s.size
    · have hf := Lib.hid (show namedB s = false by simp [namedB]; omega)
      go_enter Try.func156, Try.ntmps156
      go_wp2_with fail
      go_ret
      exact ⟨ret_bool hf.out.symm, rfl⟩
    · have hf := Lib.hid (show namedB s = nameAll s.data.toList by
        have e1 : 1 ≤ s.size := by omega
        have e2 : s.size ≤ 40 := by omega
        simp [namedB, e1, e2])
      go_enter Try.func156, Try.ntmps156
      go_wp2_with fail
      go_loop [3] (fun i => ∃ k : Nat, k ≤ s.size ∧ i = .int .i64 k ∧ Hid (nameAll (s.data.toList.take k) = true)) (fun i => s.size - (intOf i).toNat)
      case atStart => exact ⟨0, Nat.zero_le _, rfl, by simp [Hid, nameAll]⟩
      case round =>
        obtain ⟨k, hk, rfl, HA⟩ := hrel
        by_cases hlt : k < s.size
        · have hts := take_snoc s k hlt
          have hsn := nameAll_snoc (s.data.toList.take k) s[k]
          rw [← hts, HA.out, Bool.true_and] at hsn
          have HS := Lib.hid hsn
          clear hsn hts
          have hc : (s[k].toNat : Int) < 48 ∨ (48 ≤ (s[k].toNat : Int) ∧ (s[k].toNat : Int) ≤ 57) ∨ (58 ≤ (s[k].toNat : Int) ∧ (s[k].toNat : Int) ≤ 64) ∨ (65 ≤ (s[k].toNat : Int) ∧ (s[k].toNat : Int) ≤ 90) ∨
              (91 ≤ (s[k].toNat : Int) ∧ (s[k].toNat : Int) ≤ 94) ∨ (95 ≤ (s[k].toNat : Int) ∧ (s[k].toNat : Int) ≤ 95) ∨ (96 ≤ (s[k].toNat : Int) ∧ (s[k].toNat : Int) ≤ 96) ∨ (97 ≤ (s[k].toNat : Int) ∧ (s[k].toNat : Int) ≤ 122) ∨ 123 ≤ (s[k].toNat : Int) := by omega
          rcases hc with hc | ⟨hc, hc'⟩ | ⟨hc, hc'⟩ | ⟨hc, hc'⟩ | ⟨hc, hc'⟩ | ⟨hc, hc'⟩ | ⟨hc, hc'⟩ | ⟨hc, hc'⟩ | hc
          all_goals
            first | have hn : Hid (nameAll (s.data.toList.take (k + 1)) = true) := HS.out.trans (nameC_true (by omega)) | have hn : Hid (nameAll (s.data.toList.take (k + 1)) = false) := HS.out.trans (nameC_false (by omega))
            clear HS
            first | have e57 : decide ((s[k].toNat : Int) ≤ 57) = true := decide_eq_true (by omega) | have e57 : decide ((s[k].toNat : Int) ≤ 57) = false := decide_eq_false (by omega)
            first | have e90 : decide ((s[k].toNat : Int) ≤ 90) = true := decide_eq_true (by clear e57; omega) | have e90 : decide ((s[k].toNat : Int) ≤ 90) = false := decide_eq_false (by clear e57; omega)
            first | have e122 : decide ((s[k].toNat : Int) ≤ 122) = true := decide_eq_true (by clear e57 e90; omega) | have e122 : decide ((s[k].toNat : Int) ≤ 122) = false := decide_eq_false (by clear e57 e90; omega)
            first | have e95 : ((s[k].toNat : Int) == 95) = true := beq_iff_eq.2 (by clear e57 e90 e122; omega) | have e95 : ((s[k].toNat : Int) == 95) = false := beq_eq_false_iff_ne.2 (by clear e57 e90 e122; omega)
            go_wp2
            first
            | (go_round
               case rel => exact ⟨k + 1, by omega, by go_num, hn⟩
               case measure => simp [intOf]; omega)
            | (go_ret
               exact ⟨ret_bool (hf.out.trans (nameAll_cut hn.out)).symm, rfl⟩)
        · have : k = s.size := by omega
          subst this
          go_wp2
          go_ret
          exact ⟨ret_bool (by have := HA.out; rw [List.take_of_length_le (by simp)] at this; exact (hf.out.trans this).symm), rfl⟩

end Go.Proofs.Ytdeegdndfblnkaa

namespace Go.Proofs.Ytdeegdndfblnkaa
open Go.RowKit

set_option maxHeartbeats 400000 in
theorem One_any (x : Sm) (w : World) (hx : x.Ok) :
    Calls Try.prog 138 #[.agg #[.string x.name, .int .i64 x.arity, .bool x.pred]] w fun e w' => e = .returned (.int .i64 (oneI x.name x.arity)) ∧ Below w.heap.size w w' := by
  have hs := hx.size
  have hlo := hx.lo
  have hhi := hx.hi
  cases h2 : namedB x.name with
  | false =>
    have hf := Lib.hid (show oneI x.name x.arity = 111 by simp [oneI, h2])
    go_enter Try.func138, Try.ntmps138
    go_wp2_with (first | (go_at_call 156; refine (Named_any _ _ hs).mono ?_; rintro e w' ⟨rfl, rfl⟩) | fail)
    go_ret
    exact ⟨ret_int hf.out.symm, (Below.refl _ _).alloc (Nat.le_refl _) _⟩
  | true =>
    have hf := Lib.hid (show oneI x.name x.arity = if x.arity < 0 ∨ 6 < x.arity then 112 else 0 by simp [oneI, h2])
    go_enter Try.func138, Try.ntmps138
    go_wp2_with (first | (go_at_call 156; refine (Named_any _ _ hs).mono ?_; rintro e w' ⟨rfl, rfl⟩) | fail)
    all_goals
      go_ret
      refine ⟨ret_int ?_, (Below.refl _ _).alloc (Nat.le_refl _) _⟩
      rw [hf.out]
      first | rw [if_pos (by omega)] | rw [if_neg (by omega)]

def truthS : ByteArray := ⟨#[36, 116, 114, 117, 101]⟩
def truthSm : Sm := ⟨truthS, 0, true⟩
theorem truth_ok : truthSm.Ok := ⟨by decide, by decide, by decide⟩

set_option maxHeartbeats 400000 in
theorem Truth_any (w : World) :
    Calls Try.prog 137 #[] w fun e w' => e = .returned (.agg #[.string truthSm.name, .int .i64 truthSm.arity, .bool truthSm.pred]) ∧ Below w.heap.size w w' := by
  go_enter Try.func137, Try.ntmps137
  go_wp2
  refine bodyPost_ret (v := .agg #[.string truthSm.name, .int .i64 truthSm.arity, .bool truthSm.pred]) (by simp [results, Try.results137, go_sem, truthSm, truthS]) rfl ⟨rfl, ?_⟩
  repeat first | exact Below.refl _ _ | refine bl_drewN ?_ _ | refine Below.alloc ?_ (by simp) _ | refine Below.setCell ?_ (by simp) _

def atI (l : List Sm) (x : Sm) : Int := match l.findIdx? (· == x) with | some i => i | none => -1
theorem atI_hit (l : List Sm) (x : Sm) (k : Nat) (hx : l[k]? = some x) (h : ∀ j, j < k → l[j]? ≠ some x) : atI l x = k := by
  have : l.findIdx? (· == x) = some k := by
    rw [List.findIdx?_eq_some_iff_getElem]
    obtain ⟨hk, hx⟩ := List.getElem?_eq_some_iff.1 hx
    refine ⟨hk, by simp [hx], fun j hj => ?_⟩
    have := h j hj
    rw [List.getElem?_eq_getElem (by omega)] at this
    simpa using this
  simp [atI, this]
theorem atI_miss (l : List Sm) (x : Sm) (h : ∀ j, j < l.length → l[j]? ≠ some x) : atI l x = -1 := by
  have : l.findIdx? (· == x) = none := by
    rw [List.findIdx?_eq_none_iff]
    intro y hy
    obtain ⟨j, hj, rfl⟩ := List.getElem_of_mem hy
    have := h j hj
    rw [List.getElem?_eq_getElem hj] at this
    simpa using this
  simp [atI, this]
theorem not_before {l : List Sm} {x y : Sm} {k : Nat} (h : ∀ j, j < k → l[j]? ≠ some x) (hy : l[k]? = some y) (hx : y ≠ x) : ∀ j, j < k + 1 → l[j]? ≠ some x := by
  intro j hlt
  by_cases e : j = k
  · subst e; rw [hy]; intro h; injection h with h; exact hx h
  · exact h j (by omega)

set_option maxHeartbeats 400000 in
theorem At_any (A : Option Addr) (n c B : Nat) (l : List Sm) (x : Sm) (w : World) (h : Syms w B A n l) (hB : B ≤ w.heap.size) (hn : n ≤ 9223372036854775807) :
    Calls Try.prog 139 #[.slice A n c, .agg #[.string x.name, .int .i64 x.arity, .bool x.pred]] w fun e w' => e = .returned (.int .i64 (atI l x)) ∧ Below w.heap.size w w' := by
  have heq := run_eql_sym
  go_enter Try.func139, Try.ntmps139
  go_wp2
  obtain ⟨W, hW⟩ : ∃ W, w.alloc (.cells #[.string x.name, .int .i64 x.arity, .bool x.pred] 139) = W := ⟨_, rfl⟩
  have hWB : Below w.heap.size w W := by rw [← hW]; exact (Below.refl _ _).alloc (Nat.le_refl _) _
  have x1 : W.cell? ⟨w.heap.size, 0, none⟩ = some (.string x.name) := by rw [← hW]; clear hW; go_simp
  have x2 : W.cell? ⟨w.heap.size, 1, none⟩ = some (.int .i64 x.arity) := by rw [← hW]; clear hW; go_simp
  have x3 : W.cell? ⟨w.heap.size, 2, none⟩ = some (.bool x.pred) := by rw [← hW]; clear hW; go_simp
  rw [hW]
  have h' := h.below (hWB.mono hB)
  clear hW
  go_loopw [5] (fun i wr => ∃ k q : Nat, k ≤ n ∧ i = .int .i64 k ∧ wr = W.drewN q ∧ Hid (∀ j, j < k → l[j]? ≠ some x)) (fun i _ => n - (intOf i).toNat)
  case atStart => exact ⟨0, 0, Nat.zero_le _, rfl, rfl, fun j h0 => absurd h0 (Nat.not_lt_zero _)⟩
  case round =>
    obtain ⟨k, q, hk, rfl, rfl, HA⟩ := hrel
    by_cases hlt : k < n
    · obtain ⟨b, off, rfl, hb, hc⟩ := h'.ad (by omega)
      have hkl : k < l.length := by rw [h'.len]; exact hlt
      obtain ⟨y, hy⟩ : ∃ y, l[k]? = some y := ⟨_, List.getElem?_eq_getElem hkl⟩
      obtain ⟨c1, c2, c3⟩ := hc k y hy
      have Hy := Lib.hid hy
      clear hy hc h h'
      by_cases hyx : y = x
      · have hs := smB_true hyx
        have Hyx := Lib.hid hyx
        clear hyx
        go_wp2
        go_quiet (fail)
        go_wp2
        go_ret
        exact ⟨ret_int (atI_hit l x k (by rw [Hy.out, Hyx.out]) HA.out).symm, bl_drewN (bl_drewN hWB _) _⟩
      · have hs := smB_false hyx
        go_wp2
        go_quiet (fail)
        go_wp2
        go_roundw
        case rel => exact ⟨k + 1, q + nq, by omega, by go_num, rfl, not_before HA.out Hy.out hyx⟩
        case measure => simp [intOf]; omega
    · have : k = n := by omega
      subst this
      go_wp2
      go_ret
      exact ⟨ret_int (atI_miss l x (fun j hj => HA.out j (by rw [← h.len]; exact hj))).symm, bl_drewN hWB _⟩

theorem alike_before {l l' : List Sm} {k : Nat} (h : ∀ j, j < k → l[j]? = l'[j]?) (hk : l[k]? = l'[k]?) : ∀ j, j < k + 1 → l[j]? = l'[j]? := by
  intro j hlt
  by_cases e : j = k
  · subst e; exact hk
  · exact h j (by omega)
theorem alike_not {l l' : List Sm} {k : Nat} {x y : Sm} (hx : l[k]? = some x) (hy : l'[k]? = some y) (h : x ≠ y) : decide (l = l') = false := by
  rw [decide_eq_false_iff_not]
  rintro rfl
  rw [hx] at hy
  injection hy with hy
  exact h hy
theorem alike_all {l l' : List Sm} {n : Nat} (hl : l.length = n) (hl' : l'.length = n) (h : ∀ j, j < n → l[j]? = l'[j]?) : decide (l = l') = true := by
  rw [decide_eq_true_eq]
  refine List.ext_getElem? fun j => ?_
  by_cases hj : j < n
  · exact h j hj
  · rw [List.getElem?_eq_none (by omega), List.getElem?_eq_none (by omega)]

end Go.Proofs.Ytdeegdndfblnkaa

namespace Go.Proofs.Ytdeegdndfblnkaa
open Go.RowKit

/-- The value v is the signature l. -/
def IsSig (w : World) (l : List Sm) (v : Value) : Prop := ∃ A c, v = .agg #[.slice A l.length c] ∧ Syms w w.heap.size A l.length l
def SigPost (l : List Sm) (w : World) (e : Ending) (w' : World) : Prop := ∃ v, e = .returned v ∧ IsSig w' l v ∧ Below w.heap.size w w'

/-- What a cell beneath the first B blocks holds behind more of them. -/
theorem cell_on {B : Nat} {W w1 : World} (hb : Below B W w1) {b o : Nat} {v : Value} (hlt : b < B) (h : W.cell? ⟨b, o, none⟩ = some v) : w1.cell? ⟨b, o, none⟩ = some v := (hb.cell (p := ⟨b, o, none⟩) hlt).trans h
theorem frozen_on {B : Nat} {W w1 : World} (hb : Below B W w1) {b o : Nat} {x : Bool} (hlt : b < B) (h : W.frozen? ⟨b, o, none⟩ = x) : w1.frozen? ⟨b, o, none⟩ = x := (hb.frozen (p := ⟨b, o, none⟩) hlt).trans h

end Go.Proofs.Ytdeegdndfblnkaa
