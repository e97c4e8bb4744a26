import Derived.Test.YtkpkhnaflohjpaaDoorProg
import Derived.WalkKit
import Derived.WalkSpells
import Derived.WalkLawsBesides
import Derived.Lib.Hide
import Derived.Below
import Derived.Laws.OwnMore
import Derived.Deep.AppendLies
import Derived.Deep.Draws
import Derived.Laws.StructEq
import Derived.BigQuiet
import Derived.Deep.QuietTactic
import Derived.Maps.AppendAt
import Derived.Shelf.Abstract
import Derived.WalkMore
import Derived.Deep.LoopGhost
import Derived.Deep.WholeRow
import Derived.Shelf.Strconv.Clone
import Derived.Deep.DeepCutAuto
import Derived.RangeFuncNested
import Derived.RangeFuncBound
import Derived.RangeFuncCalls
import Derived.RangeFuncLeaves
/- Plain words on memory, symbols and signatures; '==' of two symbols. -/

namespace Go.Proofs.YtkpkhnaflohjpaaDoor

open Go.RowKit

theorem ret_int {k : IntKind} {a b : Int} (h : a = b) : Ending.returned (.int k a) = .returned (.int k b) := by rw [h]

theorem ret_bool {a b : Bool} (h : a = b) : Ending.returned (.bool a) = .returned (.bool b) := by rw [h]

theorem bl_drewN {B : Nat} {a w : World} (h : Below B a w) (n : Nat) : Below B a (w.drewN n) := ⟨h.os, h.tape, h.output, h.size, h.block⟩

theorem bl_drewN' {B : Nat} {a w : World} {n : Nat} (h : Below B a (w.drewN n)) : Below B a w := ⟨h.os, h.tape, h.output, h.size, h.block⟩

/-- A call's new memory lies above what the caller keeps. -/
theorem bl_step {w w1 w2 : World} (h : Below w.heap.size w w1) (h' : Below w1.heap.size w1 w2) : Below w.heap.size w w2 := h.trans (h'.mono h.size)

/-- A symbol. -/
structure Sm where
  name : ByteArray
  arity : Int
  pred : Bool
  deriving DecidableEq

instance : Inhabited Sm := ⟨⟨ByteArray.empty, 0, false⟩⟩

def Sm.cells (x : Sm) : List Value := [.string x.name, .int .i64 x.arity, .bool x.pred]

structure Sm.Ok (x : Sm) : Prop where
  size : x.name.size ≤ maxLen
  lo : -9223372036854775808 ≤ x.arity
  hi : x.arity ≤ 9223372036854775807

theorem sm_ext {x y : Sm} (h : x.name = y.name ∧ x.arity = y.arity ∧ x.pred = y.pred) : x = y := by
  obtain ⟨a, b, c⟩ := x
  obtain ⟨a', b', c'⟩ := y
  obtain ⟨rfl, rfl, rfl⟩ := h
  rfl

theorem sm_ne {x y : Sm} (h : ¬x.name = y.name ∨ ¬x.arity = y.arity ∨ ¬x.pred = y.pred) : x ≠ y := by
  rintro rfl
  rcases h with h | h | h <;> exact h rfl

theorem flat_get (l : List Sm) (i r : Nat) (hr : r < 3) : (l.flatMap Sm.cells)[i * 3 + r]? = (l[i]?).bind fun x => x.cells[r]? := by
  induction l generalizing i with
  | nil => simp
  | cons x l ih =>
    have hlen : x.cells.length = 3 := rfl
    rw [List.flatMap_cons]
    cases i with
    | zero => rw [List.getElem?_append_left (by omega)]; simp
    | succ i =>
      rw [List.getElem?_append_right (by omega), hlen, show (i + 1) * 3 + r - 3 = i * 3 + r from by omega, ih]
      simp

theorem flat_len (l : List Sm) : (l.flatMap Sm.cells).length = l.length * 3 := by
  induction l with
  | nil => rfl
  | cons x l ih =>
    have hlen : x.cells.length = 3 := rfl
    rw [List.flatMap_cons, List.length_append, ih, hlen, List.length_cons]
    omega

theorem flat_one (l : List Sm) : ∀ u ∈ l.flatMap Sm.cells, u.oneCell' = true := by
  intro u hu
  obtain ⟨x, _, hx⟩ := List.mem_flatMap.1 hu
  simp only [Sm.cells, List.mem_cons, List.not_mem_nil, or_false] at hx
  rcases hx with rfl | rfl | rfl <;> rfl

/-- The slice value (A, n) holds the symbols l; its cells lie below block B. -/
structure Syms (w : World) (B : Nat) (A : Option Addr) (n : Nat) (l : List Sm) : Prop where
  len : l.length = n
  ok : ∀ x ∈ l, x.Ok
  ad : 0 < n → ∃ b off, A = some ⟨b, off, none⟩ ∧ b < B ∧ ∀ i x, l[i]? = some x →
    w.cell? ⟨b, off + i * 3, none⟩ = some (.string x.name) ∧ w.cell? ⟨b, off + i * 3 + 1, none⟩ = some (.int .i64 x.arity) ∧ w.cell? ⟨b, off + i * 3 + 2, none⟩ = some (.bool x.pred)

section

variable {w w' : World} {B B' n : Nat} {A : Option Addr} {l : List Sm}

theorem Syms.keep (h : Syms w B A n l) (hk : ∀ p : Addr, p.block < B → w'.cell? p = w.cell? p) : Syms w' B A n l :=
  ⟨h.len, h.ok, fun hn => by
    obtain ⟨b, off, hA, hlt, hc⟩ := h.ad hn
    refine ⟨b, off, hA, hlt, fun i x hi => ?_⟩
    obtain ⟨h1, h2, h3⟩ := hc i x hi
    exact ⟨(hk ⟨b, _, none⟩ hlt).trans h1, (hk ⟨b, _, none⟩ hlt).trans h2, (hk ⟨b, _, none⟩ hlt).trans h3⟩⟩

theorem Syms.below (h : Syms w B A n l) (hb : Below B w w') : Syms w' B A n l := h.keep fun _ hp => hb.cell hp

theorem Syms.drewN (h : Syms w B A n l) (k : Nat) : Syms (w.drewN k) B A n l := h.keep fun _ _ => rfl

theorem Syms.more (h : Syms w B A n l) (hB : B ≤ B') : Syms w B' A n l :=
  ⟨h.len, h.ok, fun hn => by
    obtain ⟨b, off, hA, hlt, hc⟩ := h.ad hn
    exact ⟨b, off, hA, by omega, hc⟩⟩

theorem Syms.nil_ (w : World) (B : Nat) (A : Option Addr) : Syms w B A 0 [] := ⟨rfl, fun x hx => by simp at hx, fun h => absurd h (by omega)⟩

/-- A later world of a call: its memory is kept, and reaches further. -/
theorem Syms.on (h : Syms w w.heap.size A n l) (hb : Below w.heap.size w w') : Syms w' w'.heap.size A n l := (h.below hb).more hb.size

theorem Syms.flat (h : Syms w B A n l) (hn : 0 < n) : ∃ b off, A = some ⟨b, off, none⟩ ∧ b < B ∧ ∀ j u, (l.flatMap Sm.cells)[j]? = some u → w.cell? ⟨b, off + j, none⟩ = some u := by
  obtain ⟨b, off, hA, hlt, hc⟩ := h.ad hn
  refine ⟨b, off, hA, hlt, fun j u hu => ?_⟩
  have hj : j = j / 3 * 3 + j % 3 := by omega
  have hr : j % 3 < 3 := Nat.mod_lt _ (by omega)
  generalize j / 3 = i at hj
  generalize j % 3 = r at hj hr
  subst hj
  rw [flat_get _ _ _ hr] at hu
  cases hx : l[i]? with
  | none => rw [hx] at hu; simp at hu
  | some x =>
    rw [hx] at hu
    obtain ⟨h1, h2, h3⟩ := hc i x hx
    match r, hr with
    | 0, _ => simp [Sm.cells] at hu; rw [← hu]; exact h1
    | 1, _ => simp [Sm.cells] at hu; rw [← hu]; exact h2
    | 2, _ => simp [Sm.cells] at hu; rw [← hu]; exact h3

theorem Syms.of_flat (hl : l.length = n) (hok : ∀ x ∈ l, x.Ok) (h : 0 < n → ∃ b off, A = some ⟨b, off, none⟩ ∧ b < B ∧ ∀ j u, (l.flatMap Sm.cells)[j]? = some u → w.cell? ⟨b, off + j, none⟩ = some u) : Syms w B A n l :=
  ⟨hl, hok, fun hn => by
    obtain ⟨b, off, hA, hlt, hc⟩ := h hn
    refine ⟨b, off, hA, hlt, fun i x hx => ⟨?_, ?_, ?_⟩⟩
    · exact hc (i * 3) _ (by have := flat_get l i 0 (by omega); rw [Nat.add_zero] at this; rw [this, hx]; rfl)
    · exact (congrArg w.cell? (by simp)).trans (hc (i * 3 + 1) _ (by rw [flat_get _ _ _ (by omega), hx]; rfl))
    · exact (congrArg w.cell? (by simp)).trans (hc (i * 3 + 2) _ (by rw [flat_get _ _ _ (by omega), hx]; rfl))⟩

end

/-- Are two symbols the same? (A plain definition: the walk does not open it.) -/
def smB (a : ByteArray) (b : Int) (c : Bool) (a' : ByteArray) (b' : Int) (c' : Bool) : Bool := decide ((⟨a, b, c⟩ : Sm) = ⟨a', b', c'⟩)

theorem smB_true {x y : Sm} (h : x = y) : smB x.name x.arity x.pred y.name y.arity y.pred = true := by subst h; simp [smB]

theorem smB_false {x y : Sm} (h : x ≠ y) : smB x.name x.arity x.pred y.name y.arity y.pred = false := by
  simp only [smB, decide_eq_false_iff_not]; exact h

end Go.Proofs.YtkpkhnaflohjpaaDoor

/- Appending symbols to a row of the call's own. -/

namespace Go.Proofs.YtkpkhnaflohjpaaDoor

open Go.RowKit

section

variable {w w' : World} {base B n : Nat} {v : Value} {l l' : List Sm} {A : Option Addr}

end

end Go.Proofs.YtkpkhnaflohjpaaDoor

/- The functions on names and on one symbol, and a symbol's place: what each call answers. One symbol: is its name one, may it be; $true. One symbol by the plain answer; $true; a symbol's place; two signatures. Copies; the plain check of a signature. -/

namespace Go.Proofs.YtkpkhnaflohjpaaDoor

open Go.RowKit

def nameC (c : Int) : Bool := decide ((97 ≤ c ∧ c ≤ 122) ∨ (65 ≤ c ∧ c ≤ 90) ∨ (48 ≤ c ∧ c ≤ 57) ∨ c = 95)

theorem nameC_true {c : Int} (h : (97 ≤ c ∧ c ≤ 122) ∨ (65 ≤ c ∧ c ≤ 90) ∨ (48 ≤ c ∧ c ≤ 57) ∨ c = 95) : nameC c = true := by simpa [nameC] using h

theorem nameC_false {c : Int} (h : ¬ ((97 ≤ c ∧ c ≤ 122) ∨ (65 ≤ c ∧ c ≤ 90) ∨ (48 ≤ c ∧ c ≤ 57) ∨ c = 95)) : nameC c = false := by simpa [nameC] using h

/-- Are all bytes of a text a name's? -/
def nameAll (l : List UInt8) : Bool := l.all fun c => nameC c.toNat

theorem take_snoc (s : ByteArray) (k : Nat) (h : k < s.size) : s.data.toList.take (k + 1) = s.data.toList.take k ++ [s[k]] := by
  rw [List.take_succ_eq_append_getElem (by simpa using h)]; rfl

theorem nameAll_snoc (l : List UInt8) (c : UInt8) : nameAll (l ++ [c]) = (nameAll l && nameC c.toNat) := by simp [nameAll]

theorem nameAll_cut {l : List UInt8} {k : Nat} (h : nameAll (l.take k) = false) : nameAll l = false := by
  cases hl : nameAll l with
  | false => rfl
  | true =>
    unfold nameAll at hl h
    rw [List.all_eq_true] at hl
    rw [List.all_eq_false] at h
    obtain ⟨x, hx, hf⟩ := h
    exact absurd (hl x (List.mem_of_mem_take hx)) hf

end Go.Proofs.YtkpkhnaflohjpaaDoor

namespace Go.Proofs.YtkpkhnaflohjpaaDoor

open Go.RowKit

/-- Is a text a name? -/
def namedB (s : ByteArray) : Bool := decide (1 ≤ s.size) && decide (s.size ≤ 40) && nameAll s.data.toList

/-- What may be wrong with a symbol that is not $true: 0, 111 or 112. -/
def oneI (name : ByteArray) (arity : Int) : Int := if namedB name = false then 111 else if arity < 0 ∨ 6 < arity then 112 else 0

set_option maxHeartbeats 1000000 in
theorem Named_any (s : ByteArray) (w : World) (hs : s.size ≤ maxLen) :
    Calls Tryd.prog 28 #[.string s] w fun e w' => e = .returned (.bool (namedB s)) ∧ w = w' := by
  unfold maxLen at hs
  by_cases h0 : s.size < 1
  · have hf := Lib.hid (show namedB s = false by simp [namedB]; omega)
    go_enter Tryd.func28, Tryd.ntmps28
    go_wp2_with fail
    go_ret
    exact ⟨ret_bool hf.out.symm, rfl⟩
  · by_cases h1 : 40 < s.size
    · have hf := Lib.hid (show namedB s = false by simp [namedB]; omega)
      go_enter Tryd.func28, Tryd.ntmps28
      go_wp2_with fail
      go_ret
      exact ⟨ret_bool hf.out.symm, rfl⟩
    · have hf := Lib.hid (show namedB s = nameAll s.data.toList by
        have e1 : 1 ≤ s.size := by omega
        have e2 : s.size ≤ 40 := by omega
        simp [namedB, e1, e2])
      go_enter Tryd.func28, Tryd.ntmps28
      go_wp2_with fail
      go_loop [3] (fun i => ∃ k : Nat, k ≤ s.size ∧ i = .int .i64 k ∧ Hid (nameAll (s.data.toList.take k) = true)) (fun i => s.size - (intOf i).toNat)
      case atStart => exact ⟨0, Nat.zero_le _, rfl, by simp [Hid, nameAll]⟩
      case round =>
        obtain ⟨k, hk, rfl, HA⟩ := hrel
        by_cases hlt : k < s.size
        · have hts := take_snoc s k hlt
          have hsn := nameAll_snoc (s.data.toList.take k) s[k]
          rw [← hts, HA.out, Bool.true_and] at hsn
          have HS := Lib.hid hsn
          clear hsn hts
          have hc : (s[k].toNat : Int) < 48 ∨ (48 ≤ (s[k].toNat : Int) ∧ (s[k].toNat : Int) ≤ 57) ∨ (58 ≤ (s[k].toNat : Int) ∧ (s[k].toNat : Int) ≤ 64) ∨ (65 ≤ (s[k].toNat : Int) ∧ (s[k].toNat : Int) ≤ 90) ∨
              (91 ≤ (s[k].toNat : Int) ∧ (s[k].toNat : Int) ≤ 94) ∨ (95 ≤ (s[k].toNat : Int) ∧ (s[k].toNat : Int) ≤ 95) ∨ (96 ≤ (s[k].toNat : Int) ∧ (s[k].toNat : Int) ≤ 96) ∨ (97 ≤ (s[k].toNat : Int) ∧ (s[k].toNat : Int) ≤ 122) ∨ 123 ≤ (s[k].toNat : Int) := by omega
          rcases hc with hc | ⟨hc, hc'⟩ | ⟨hc, hc'⟩ | ⟨hc, hc'⟩ | ⟨hc, hc'⟩ | ⟨hc, hc'⟩ | ⟨hc, hc'⟩ | ⟨hc, hc'⟩ | hc
          all_goals
            first | have hn : Hid (nameAll (s.data.toList.take (k + 1)) = true) := HS.out.trans (nameC_true (by omega)) | have hn : Hid (nameAll (s.data.toList.take (k + 1)) = false) := HS.out.trans (nameC_false (by omega))
            clear HS
            first | have e57 : decide ((s[k].toNat : Int) ≤ 57) = true := decide_eq_true (by omega) | have e57 : decide ((s[k].toNat : Int) ≤ 57) = false := decide_eq_false (by omega)
            first | have e90 : decide ((s[k].toNat : Int) ≤ 90) = true := decide_eq_true (by clear e57; omega) | have e90 : decide ((s[k].toNat : Int) ≤ 90) = false := decide_eq_false (by clear e57; omega)
            first | have e122 : decide ((s[k].toNat : Int) ≤ 122) = true := decide_eq_true (by clear e57 e90; omega) | have e122 : decide ((s[k].toNat : Int) ≤ 122) = false := decide_eq_false (by clear e57 e90; omega)
            first | have e95 : ((s[k].toNat : Int) == 95) = true := beq_iff_eq.2 (by clear e57 e90 e122; omega) | have e95 : ((s[k].toNat : Int) == 95) = false := beq_eq_false_iff_ne.2 (by clear e57 e90 e122; omega)
            go_wp2
            first
            | (go_round
               case rel => exact ⟨k + 1, by omega, by go_num, hn⟩
               case measure => simp [intOf]; omega)
            | (go_ret
               exact ⟨ret_bool (hf.out.trans (nameAll_cut hn.out)).symm, rfl⟩)
        · have : k = s.size := by omega
          subst this
          go_wp2
          go_ret
          exact ⟨ret_bool (by have := HA.out; rw [List.take_of_length_le (by simp)] at this; exact (hf.out.trans this).symm), rfl⟩

end Go.Proofs.YtkpkhnaflohjpaaDoor

namespace Go.Proofs.YtkpkhnaflohjpaaDoor

open Go.RowKit

def truthS : ByteArray := ⟨#[36, 116, 114, 117, 101]⟩

def truthSm : Sm := ⟨truthS, 0, true⟩

theorem truth_ok : truthSm.Ok := ⟨by decide, by decide, by decide⟩

def atI (l : List Sm) (x : Sm) : Int := match l.findIdx? (· == x) with | some i => i | none => -1

theorem atI_hit (l : List Sm) (x : Sm) (k : Nat) (hx : l[k]? = some x) (h : ∀ j, j < k → l[j]? ≠ some x) : atI l x = k := by
  have : l.findIdx? (· == x) = some k := by
    rw [List.findIdx?_eq_some_iff_getElem]
    obtain ⟨hk, hx⟩ := List.getElem?_eq_some_iff.1 hx
    refine ⟨hk, by simp [hx], fun j hj => ?_⟩
    have := h j hj
    rw [List.getElem?_eq_getElem (by omega)] at this
    simpa using this
  simp [atI, this]

theorem atI_miss (l : List Sm) (x : Sm) (h : ∀ j, j < l.length → l[j]? ≠ some x) : atI l x = -1 := by
  have : l.findIdx? (· == x) = none := by
    rw [List.findIdx?_eq_none_iff]
    intro y hy
    obtain ⟨j, hj, rfl⟩ := List.getElem_of_mem hy
    have := h j hj
    rw [List.getElem?_eq_getElem hj] at this
    simpa using this
  simp [atI, this]

theorem not_before {l : List Sm} {x y : Sm} {k : Nat} (h : ∀ j, j < k → l[j]? ≠ some x) (hy : l[k]? = some y) (hx : y ≠ x) : ∀ j, j < k + 1 → l[j]? ≠ some x := by
  intro j hlt
  by_cases e : j = k
  · subst e; rw [hy]; intro h; injection h with h; exact hx h
  · exact h j (by omega)

theorem alike_before {l l' : List Sm} {k : Nat} (h : ∀ j, j < k → l[j]? = l'[j]?) (hk : l[k]? = l'[k]?) : ∀ j, j < k + 1 → l[j]? = l'[j]? := by
  intro j hlt
  by_cases e : j = k
  · subst e; exact hk
  · exact h j (by omega)

theorem alike_not {l l' : List Sm} {k : Nat} {x y : Sm} (hx : l[k]? = some x) (hy : l'[k]? = some y) (h : x ≠ y) : decide (l = l') = false := by
  rw [decide_eq_false_iff_not]
  rintro rfl
  rw [hx] at hy
  injection hy with hy
  exact h hy

theorem alike_all {l l' : List Sm} {n : Nat} (hl : l.length = n) (hl' : l'.length = n) (h : ∀ j, j < n → l[j]? = l'[j]?) : decide (l = l') = true := by
  rw [decide_eq_true_eq]
  refine List.ext_getElem? fun j => ?_
  by_cases hj : j < n
  · exact h j hj
  · rw [List.getElem?_eq_none (by omega), List.getElem?_eq_none (by omega)]

end Go.Proofs.YtkpkhnaflohjpaaDoor

namespace Go.Proofs.YtkpkhnaflohjpaaDoor

open Go.RowKit

/-- The value v is the signature l. -/
def IsSig (w : World) (l : List Sm) (v : Value) : Prop := ∃ A c, v = .agg #[.slice A l.length c] ∧ Syms w w.heap.size A l.length l

def SigPost (l : List Sm) (w : World) (e : Ending) (w' : World) : Prop := ∃ v, e = .returned v ∧ IsSig w' l v ∧ Below w.heap.size w w'

/-- What a cell beneath the first B blocks holds behind more of them. -/
theorem cell_on {B : Nat} {W w1 : World} (hb : Below B W w1) {b o : Nat} {v : Value} (hlt : b < B) (h : W.cell? ⟨b, o, none⟩ = some v) : w1.cell? ⟨b, o, none⟩ = some v := (hb.cell (p := ⟨b, o, none⟩) hlt).trans h

theorem frozen_on {B : Nat} {W w1 : World} (hb : Below B W w1) {b o : Nat} {x : Bool} (hlt : b < B) (h : W.frozen? ⟨b, o, none⟩ = x) : w1.frozen? ⟨b, o, none⟩ = x := (hb.frozen (p := ⟨b, o, none⟩) hlt).trans h

end Go.Proofs.YtkpkhnaflohjpaaDoor

/- Token: texts and tokens, in plain words. -/

namespace Go.Proofs.YtkpkhnaflohjpaaDoor

open Go.RowKit

def blankC (c : Int) : Bool := decide (c = 32 ∨ c = 9 ∨ c = 10 ∨ c = 13)

def smallC (c : Int) : Bool := decide (97 ≤ c ∧ c ≤ 122)

def greatC (c : Int) : Bool := decide (65 ≤ c ∧ c ≤ 90)

def digitC (c : Int) : Bool := decide (48 ≤ c ∧ c ≤ 57)

def quotC (c : Int) : Bool := decide (32 ≤ c ∧ c ≤ 126 ∧ c ≠ 39 ∧ c ≠ 92)

/-- A line goes on. -/
def lineC (c : Int) : Bool := decide (c ≠ 10)

/-- How many bytes from the beginning on are such. -/
def runN (p : Int → Bool) : List UInt8 → Nat
  | [] => 0
  | c :: l => if p (c.toNat : Int) then runN p l + 1 else 0

/-- Where the end of a remark begins. -/
def findEnd : List UInt8 → Option Nat
  | [] => none
  | c :: l => if c = 42 ∧ l.head? = some 47 then some 0 else (findEnd l).map (· + 1)

/-- How far one blank, or one remark, goes. -/
def skipN : List UInt8 → Nat
  | [] => 0
  | c :: l => if blankC (c.toNat : Int) then 1 else if c = 37 then runN lineC (c :: l) else
      if c = 47 ∧ l.head? = some 42 then (match findEnd l.tail with | some j => j + 4 | none => 0) else 0

def gapF (L : List UInt8) : Nat → Nat → Nat
  | 0, k => k
  | n + 1, k => if skipN (L.drop k) = 0 then k else gapF L n (k + skipN (L.drop k))

/-- The first place, from k on, where neither a blank nor a remark stands. -/
def gapP (L : List UInt8) (k : Nat) : Nat := gapF L (L.length + 1) k

def signsL : List (List UInt8) := [[60, 61, 62], [60, 126, 62], [61, 62], [60, 61], [126, 124], [126, 38], [33, 61], [40], [41], [91], [93], [44], [46], [58], [38], [124], [126], [61], [33], [63]]

/-- How long a sign is with which a text goes on. -/
def signN (l : List UInt8) : Nat := match signsL.find? fun p => p.isPrefixOf l with | some p => p.length | none => 0

/-- The token with which a text begins: its kind, where its text begins and ends. -/
def firstT : List UInt8 → Nat × Nat × Nat
  | [] => (7, 0, 0)
  | c :: l =>
    if smallC (c.toNat : Int) then (1, 0, runN nameC (c :: l))
    else if greatC (c.toNat : Int) then (2, 0, runN nameC (c :: l))
    else if digitC (c.toNat : Int) then (5, 0, runN digitC (c :: l))
    else if c = 36 then (if (match l with | d :: _ => smallC (d.toNat : Int) | [] => false) then (3, 0, 1 + runN nameC l) else (0, 0, 0))
    else if c = 39 then (if runN quotC l = 0 then (0, 0, 0) else if (l.drop (runN quotC l)).head? = some 39 then (4, 1, 1 + runN quotC l) else (0, 0, 0))
    else if signN (c :: l) = 0 then (0, 0, 0) else (6, 0, signN (c :: l))

/-- A token. -/
structure Tk where
  kind : Nat
  txt : ByteArray
  pos : Nat
deriving DecidableEq

/-- The token at a place where neither a blank nor a remark stands, or what is wrong with it. -/
def readT (s : ByteArray) (p : Nat) : Tk ⊕ Int :=
  let f := firstT (s.data.toList.drop p)
  if f.1 = 0 then .inr 220 else if f.1 ≠ 6 ∧ 40 < f.2.2 - f.2.1 then .inr 3 else .inl ⟨f.1, s.extract (p + f.2.1) (p + f.2.2), p⟩

/-- The place behind a token. -/
def Tk.behind (t : Tk) : Nat := t.pos + t.txt.size + if t.kind = 4 then 2 else 0

def toksF (s : ByteArray) : Nat → Nat → List Tk × Option (Nat × Int)
  | 0, _ => ([], none)
  | n + 1, k => match readT s (gapP s.data.toList k) with
    | .inr c => ([], some (gapP s.data.toList k, c))
    | .inl t => if t.kind = 7 then ([t], none) else (t :: (toksF s n t.behind).1, (toksF s n t.behind).2)

/-- The tokens from a place on, up to the first fault, and the fault. -/
def toks (s : ByteArray) (k : Nat) : List Tk × Option (Nat × Int) := toksF s (s.size + 2) k

theorem runN_le (p : Int → Bool) : ∀ l, runN p l ≤ l.length
  | [] => by simp [runN]
  | c :: l => by have := runN_le p l; unfold runN; split <;> simp <;> omega

theorem findEnd_le : ∀ {l : List UInt8} {j : Nat}, findEnd l = some j → j + 2 ≤ l.length
  | [], j, h => by simp [findEnd] at h
  | c :: l, j, h => by
    unfold findEnd at h
    split at h
    · rename_i hc
      injection h with h
      cases l with
      | nil => simp at hc
      | cons d l => simp; omega
    · cases hf : findEnd l with
      | none => rw [hf] at h; simp at h
      | some i =>
        rw [hf] at h
        simp at h
        have := findEnd_le hf
        simp; omega

theorem skipN_cons (c : UInt8) (l : List UInt8) : skipN (c :: l) = if blankC (c.toNat : Int) then 1 else if c = 37 then runN lineC (c :: l) else if c = 47 ∧ l.head? = some 42 then (match findEnd l.tail with | some j => j + 4 | none => 0) else 0 := rfl

theorem skipN_le (l : List UInt8) : skipN l ≤ l.length := by
  cases l with
  | nil => simp [skipN]
  | cons c l =>
    have h0 := runN_le lineC (c :: l)
    rw [skipN_cons]
    by_cases h1 : blankC (c.toNat : Int) = true
    · rw [if_pos h1]; simp
    · rw [if_neg h1]
      by_cases h2 : c = 37
      · rw [if_pos h2]; exact h0
      · rw [if_neg h2]
        by_cases h3 : c = 47 ∧ l.head? = some 42
        · rw [if_pos h3]
          cases hf : findEnd l.tail with
          | none => simp
          | some j =>
            have := findEnd_le hf
            rw [List.length_tail] at this
            simp; omega
        · rw [if_neg h3]; omega

theorem gapF_more (L : List UInt8) : ∀ (n k : Nat), L.length < k + n → gapF L (n + 1) k = gapF L n k
  | 0, k, h => by
    have hd : L.drop k = [] := List.drop_eq_nil_of_le (by omega)
    simp [gapF, hd, skipN]
  | n + 1, k, h => by
    rw [gapF]
    conv => rhs; rw [gapF]
    by_cases h0 : skipN (L.drop k) = 0
    · rw [if_pos h0, if_pos h0]
    · rw [if_neg h0, if_neg h0]
      exact gapF_more L n _ (by omega)

theorem gapP_eq (L : List UInt8) (k : Nat) : gapP L k = if skipN (L.drop k) = 0 then k else gapP L (k + skipN (L.drop k)) := by
  unfold gapP
  rw [gapF]
  by_cases h0 : skipN (L.drop k) = 0
  · rw [if_pos h0, if_pos h0]
  · rw [if_neg h0, if_neg h0]
    exact (gapF_more L L.length _ (by omega)).symm

theorem gapP_skip {L : List UInt8} {k n : Nat} (h : skipN (L.drop k) = n) (hn : 0 < n) : gapP L k = gapP L (k + n) := by
  rw [gapP_eq L k, h, if_neg (by omega)]

theorem gapP_stop {L : List UInt8} {k : Nat} (h : skipN (L.drop k) = 0) : gapP L k = k := by rw [gapP_eq, if_pos h]

theorem gapP_end {L : List UInt8} : gapP L L.length = L.length := gapP_stop (by simp [skipN])

theorem gapF_le (L : List UInt8) : ∀ (n k : Nat), k ≤ L.length → k ≤ gapF L n k ∧ gapF L n k ≤ L.length
  | 0, k, h => ⟨Nat.le_refl _, h⟩
  | n + 1, k, h => by
    rw [gapF]
    split
    · exact ⟨Nat.le_refl _, h⟩
    · have h1 := skipN_le (L.drop k)
      rw [List.length_drop] at h1
      have h2 := gapF_le L n (k + skipN (L.drop k)) (by omega)
      omega

theorem gapP_le {L : List UInt8} {k : Nat} (h : k ≤ L.length) : k ≤ gapP L k ∧ gapP L k ≤ L.length := gapF_le L _ k h

theorem gapP_idem {L : List UInt8} (k : Nat) : ∀ (n : Nat), L.length < k + n → skipN (L.drop (gapF L n k)) = 0 := by
  intro n
  induction n generalizing k with
  | zero => intro h; rw [gapF, List.drop_eq_nil_of_le (by omega)]; rfl
  | succ n ih =>
    intro h
    rw [gapF]
    by_cases h0 : skipN (L.drop k) = 0
    · rw [if_pos h0]; exact h0
    · rw [if_neg h0]; exact ih _ (by omega)

theorem gapP_gap (L : List UInt8) (k : Nat) : skipN (L.drop (gapP L k)) = 0 := gapP_idem k _ (by omega)

theorem gapP_twice (L : List UInt8) (k : Nat) : gapP L (gapP L k) = gapP L k := gapP_stop (gapP_gap L k)

theorem signs_pos : ∀ p ∈ signsL, 0 < p.length := by decide +kernel

theorem signN_le (l : List UInt8) : signN l ≤ l.length := by
  unfold signN
  cases h : signsL.find? fun p => p.isPrefixOf l with
  | none => simp
  | some p =>
    have := List.find?_some h
    simp only [List.isPrefixOf_iff_prefix] at this
    exact this.length_le

/-- What begins a text ends within it; and is not empty, but for the end. -/
theorem firstT_le (l : List UInt8) : (firstT l).2.1 ≤ (firstT l).2.2 ∧ (firstT l).2.2 ≤ l.length ∧ ((firstT l).1 = 4 → (firstT l).2.1 = 1 ∧ (firstT l).2.2 + 1 ≤ l.length) ∧ ((firstT l).1 ≠ 4 → (firstT l).2.1 = 0) ∧ ((firstT l).1 = 7 ↔ l = []) ∧ ((firstT l).1 ≠ 7 → (firstT l).1 ≠ 0 → (firstT l).2.1 < (firstT l).2.2) ∧ (firstT l).1 ≤ 7 := by
  cases l with
  | nil => simp [firstT]
  | cons c l =>
    have hr := runN_le nameC (c :: l)
    have hr0 := runN_le nameC l
    have hd := runN_le digitC (c :: l)
    have hq := runN_le quotC l
    have hs := signN_le (c :: l)
    have hname : smallC (c.toNat : Int) = true ∨ greatC (c.toNat : Int) = true → 0 < runN nameC (c :: l) := fun h => by
      have : nameC (c.toNat : Int) = true := by
        simp only [smallC, greatC, nameC, decide_eq_true_eq] at h ⊢
        omega
      unfold runN; rw [if_pos this]; omega
    have hdig : digitC (c.toNat : Int) = true → 0 < runN digitC (c :: l) := fun h => by unfold runN; rw [if_pos h]; omega
    rw [List.length_cons] at hr hd hs
    simp only [firstT, List.length_cons]
    by_cases h1 : smallC (c.toNat : Int) = true
    · have := hname (.inl h1)
      rw [if_pos h1]; simp; omega
    · rw [if_neg h1]
      by_cases h2 : greatC (c.toNat : Int) = true
      · have := hname (.inr h2)
        rw [if_pos h2]; simp; omega
      · rw [if_neg h2]
        by_cases h3 : digitC (c.toNat : Int) = true
        · have := hdig h3
          rw [if_pos h3]; simp; omega
        · rw [if_neg h3]
          by_cases h4 : c = 36
          · rw [if_pos h4]
            generalize (match l with | d :: _ => smallC (d.toNat : Int) | [] => false) = b
            cases b
            · simp
            · simp; omega
          · rw [if_neg h4]
            by_cases h5 : c = 39
            · rw [if_pos h5]
              by_cases h6 : runN quotC l = 0
              · rw [if_pos h6]; simp
              · rw [if_neg h6]
                by_cases h7 : (l.drop (runN quotC l)).head? = some 39
                · have : runN quotC l < l.length := by
                    rcases Nat.lt_or_ge (runN quotC l) l.length with h | h
                    · exact h
                    · rw [List.drop_eq_nil_of_le h] at h7; simp at h7
                  rw [if_pos h7]; simp; omega
                · rw [if_neg h7]; simp
            · rw [if_neg h5]
              by_cases h6 : signN (c :: l) = 0
              · rw [if_pos h6]; simp
              · rw [if_neg h6]; simp; omega

theorem size_ext (s : ByteArray) (a b : Nat) (hb : b ≤ s.size) : (s.extract a b).size = b - a := by
  rw [ByteArray.size_extract]; omega

theorem toList_len (s : ByteArray) : s.data.toList.length = s.size := by simp

theorem toList_ext (s : ByteArray) (a b : Nat) : (s.extract a b).data.toList = (s.data.toList.drop a).take (b - a) := by
  simp [ByteArray.data_extract, List.extract_eq_take_drop]

theorem drop_cons {s : ByteArray} {k : Nat} (h : k < s.size) : s.data.toList.drop k = s[k] :: s.data.toList.drop (k + 1) := by
  rw [List.drop_eq_getElem_cons (by simpa using h)]; rfl

/-- What is read lies within the text, and what stands behind it, too. -/
theorem readT_behind {s : ByteArray} {p : Nat} {t : Tk} (hp : p ≤ s.size) (h : readT s p = .inl t) : t.pos = p ∧ p ≤ t.behind ∧ t.behind ≤ s.size ∧ (t.kind ≠ 7 → p < t.behind) ∧ (t.kind = 7 → p = s.size ∧ t.txt.size = 0) ∧ 1 ≤ t.kind ∧ t.kind ≤ 7 := by
  have hf := firstT_le (s.data.toList.drop p)
  rw [List.length_drop, toList_len] at hf
  unfold readT at h
  simp only at h
  have hk := hf.2.2.2.2.2.2
  split at h
  · cases h
  · split at h
    · cases h
    · rename_i h0 _
      injection h with h
      subst h
      obtain ⟨h1, h2, h3, h4, h5, h6, _⟩ := hf
      have hz : (s.extract (p + (firstT (s.data.toList.drop p)).2.1) (p + (firstT (s.data.toList.drop p)).2.2)).size = (firstT (s.data.toList.drop p)).2.2 - (firstT (s.data.toList.drop p)).2.1 := by
        rw [size_ext _ _ _ (by omega)]; omega
      simp only [Tk.behind, hz]
      refine ⟨trivial, by omega, ?_, fun h7 => ?_, fun h7 => ?_, by omega, hk⟩
      · split
        · rename_i e; have := h3 e; omega
        · rename_i e; have := h4 e; omega
      · have := h6 h7 h0; omega
      · have := h5.1 h7
        rw [List.drop_eq_nil_iff, toList_len] at this
        omega

theorem toksF_more (s : ByteArray) : ∀ (n k : Nat), k ≤ s.size → s.size + 1 < k + n → toksF s (n + 1) k = toksF s n k
  | 0, k, h, h2 => by omega
  | n + 1, k, h, h2 => by
    have hg := gapP_le (L := s.data.toList) (k := k) (by rw [toList_len]; exact h)
    rw [toList_len] at hg
    rw [toksF]
    conv => rhs; rw [toksF]
    cases hr : readT s (gapP s.data.toList k) with
    | inr c => rfl
    | inl t =>
      obtain ⟨_, h3, h4, h5, _⟩ := readT_behind hg.2 hr
      simp only
      by_cases h7 : t.kind = 7
      · rw [if_pos h7, if_pos h7]
      · have := h5 h7
        rw [if_neg h7, if_neg h7, toksF_more s n t.behind h4 (by omega)]

theorem toks_eq {s : ByteArray} {k : Nat} (h : k ≤ s.size) : toks s k = match readT s (gapP s.data.toList k) with
    | .inr c => ([], some (gapP s.data.toList k, c))
    | .inl t => if t.kind = 7 then ([t], none) else (t :: (toks s t.behind).1, (toks s t.behind).2) := by
  have hg := gapP_le (L := s.data.toList) (k := k) (by rw [toList_len]; exact h)
  rw [toList_len] at hg
  unfold toks
  rw [toksF]
  cases hr : readT s (gapP s.data.toList k) with
  | inr c => rfl
  | inl t =>
    obtain ⟨_, h3, h4, h5, _⟩ := readT_behind hg.2 hr
    simp only
    by_cases h7 : t.kind = 7
    · rw [if_pos h7, if_pos h7]
    · have := h5 h7
      rw [if_neg h7, if_neg h7, toksF_more s (s.size + 1) t.behind h4 (by omega)]

end Go.Proofs.YtkpkhnaflohjpaaDoor

/- Token: the program's functions on bytes, and how far a run of them goes; the document's own. -/

namespace Go.Proofs.YtkpkhnaflohjpaaDoor

open Go.RowKit Go.Shelf
set_option maxRecDepth 20000

set_option maxHeartbeats 400000 in
theorem tokSmall_any (c : Int) (w : World) : Calls Tryd.prog 24 #[.int .u8 c] w fun e w' => e = .returned (.bool (smallC c)) ∧ w = w' := by
  go_enter Tryd.func24, Tryd.ntmps24
  go_wp2
  all_goals
    go_ret
    refine ⟨ret_bool ?_, rfl⟩
    rw [Bool.eq_iff_iff]
    simp [smallC] <;> omega

set_option maxHeartbeats 400000 in
theorem tokGreat_any (c : Int) (w : World) : Calls Tryd.prog 37 #[.int .u8 c] w fun e w' => e = .returned (.bool (greatC c)) ∧ w = w' := by
  go_enter Tryd.func37, Tryd.ntmps37
  go_wp2
  all_goals
    go_ret
    refine ⟨ret_bool ?_, rfl⟩
    rw [Bool.eq_iff_iff]
    simp [greatC] <;> omega

set_option maxHeartbeats 400000 in
theorem tokDigit_any (c : Int) (w : World) : Calls Tryd.prog 38 #[.int .u8 c] w fun e w' => e = .returned (.bool (digitC c)) ∧ w = w' := by
  go_enter Tryd.func38, Tryd.ntmps38
  go_wp2
  all_goals
    go_ret
    refine ⟨ret_bool ?_, rfl⟩
    rw [Bool.eq_iff_iff]
    simp [digitC] <;> omega

set_option maxHeartbeats 400000 in
theorem tokBlank_any (c : Int) (w : World) : Calls Tryd.prog 30 #[.int .u8 c] w fun e w' => e = .returned (.bool (blankC c)) ∧ w = w' := by
  go_enter Tryd.func30, Tryd.ntmps30
  go_wp2
  all_goals
    go_ret
    refine ⟨ret_bool ?_, rfl⟩
    rw [Bool.eq_iff_iff]
    simp [blankC] <;> omega

set_option maxHeartbeats 400000 in
theorem tokQuotable_any (c : Int) (w : World) : Calls Tryd.prog 47 #[.int .u8 c] w fun e w' => e = .returned (.bool (quotC c)) ∧ w = w' := by
  go_enter Tryd.func47, Tryd.ntmps47
  go_wp2
  all_goals
    go_ret
    refine ⟨ret_bool ?_, rfl⟩
    rw [Bool.eq_iff_iff]
    simp [quotC] <;> omega

def letC (c : Int) : Bool := decide ((97 ≤ c ∧ c ≤ 122) ∨ (65 ≤ c ∧ c ≤ 90))

set_option maxHeartbeats 400000 in
theorem rtLetter_any (c : Int) (w : World) : Calls Tryd.prog 48 #[.int .u8 c] w fun e w' => e = .returned (.bool (letC c)) ∧ w = w' := by
  go_enter Tryd.func48, Tryd.ntmps48
  go_wp2
  all_goals
    go_ret
    refine ⟨ret_bool ?_, rfl⟩
    rw [Bool.eq_iff_iff]
    simp [letC] <;> omega

set_option maxHeartbeats 400000 in
theorem rtDigit_any (c : Int) (w : World) : Calls Tryd.prog 44 #[.int .u8 c] w fun e w' => e = .returned (.bool (digitC c)) ∧ w = w' := by
  go_enter Tryd.func44, Tryd.ntmps44
  go_wp2
  all_goals
    go_ret
    refine ⟨ret_bool ?_, rfl⟩
    rw [Bool.eq_iff_iff]
    simp [digitC] <;> omega

set_option maxHeartbeats 400000 in
theorem rtBlank_any (c : Int) (w : World) : Calls Tryd.prog 33 #[.int .u8 c] w fun e w' => e = .returned (.bool (blankC c)) ∧ w = w' := by
  go_enter Tryd.func33, Tryd.ntmps33
  go_wp2
  all_goals
    go_ret
    refine ⟨ret_bool ?_, rfl⟩
    rw [Bool.eq_iff_iff]
    simp [blankC] <;> omega

theorem name_split (c : Int) : nameC c = (smallC c || greatC c || digitC c || (c == 95)) := by
  rw [Bool.eq_iff_iff]; simp [nameC, smallC, greatC, digitC]; omega

set_option maxHeartbeats 400000 in
theorem tokWord_any (c : Int) (w : World) : Calls Tryd.prog 27 #[.int .u8 c] w fun e w' => e = .returned (.bool (nameC c)) ∧ w = w' := by
  rw [name_split]
  cases h1 : smallC c with
  | true =>
    go_enter Tryd.func27, Tryd.ntmps27
    go_wp2_with (first | (go_at_call 24; refine (tokSmall_any _ _).mono ?_; rintro e w' ⟨rfl, rfl⟩) | fail)
    go_ret
    exact ⟨rfl, rfl⟩
  | false =>
    cases h2 : greatC c with
    | true =>
      go_enter Tryd.func27, Tryd.ntmps27
      go_wp2_with (first | (go_at_call 24; refine (tokSmall_any _ _).mono ?_; rintro e w' ⟨rfl, rfl⟩) | (go_at_call 37; refine (tokGreat_any _ _).mono ?_; rintro e w' ⟨rfl, rfl⟩) | fail)
      go_ret
      exact ⟨rfl, rfl⟩
    | false =>
      cases h3 : digitC c with
      | true =>
        go_enter Tryd.func27, Tryd.ntmps27
        go_wp2_with (first | (go_at_call 24; refine (tokSmall_any _ _).mono ?_; rintro e w' ⟨rfl, rfl⟩) | (go_at_call 37; refine (tokGreat_any _ _).mono ?_; rintro e w' ⟨rfl, rfl⟩) | (go_at_call 38; refine (tokDigit_any _ _).mono ?_; rintro e w' ⟨rfl, rfl⟩) | fail)
        go_ret
        exact ⟨rfl, rfl⟩
      | false =>
        go_enter Tryd.func27, Tryd.ntmps27
        go_wp2_with (first | (go_at_call 24; refine (tokSmall_any _ _).mono ?_; rintro e w' ⟨rfl, rfl⟩) | (go_at_call 37; refine (tokGreat_any _ _).mono ?_; rintro e w' ⟨rfl, rfl⟩) | (go_at_call 38; refine (tokDigit_any _ _).mono ?_; rintro e w' ⟨rfl, rfl⟩) | fail)
        go_ret
        exact ⟨by simp, rfl⟩

theorem runN_here {p : Int → Bool} {s : ByteArray} {k : Nat} (h : k < s.size) (hp : p (s[k].toNat : Int) = true) : runN p (s.data.toList.drop k) = runN p (s.data.toList.drop (k + 1)) + 1 := by
  rw [drop_cons h, runN, if_pos hp]

theorem runN_stop {p : Int → Bool} {s : ByteArray} {k : Nat} (h : k < s.size) (hp : p (s[k].toNat : Int) = false) : runN p (s.data.toList.drop k) = 0 := by
  rw [drop_cons h, runN, if_neg (by rw [hp]; simp)]

theorem runN_end {p : Int → Bool} {s : ByteArray} {k : Nat} (h : s.size ≤ k) : runN p (s.data.toList.drop k) = 0 := by
  rw [List.drop_eq_nil_of_le (by rw [toList_len]; exact h)]; rfl

set_option maxHeartbeats 1000000 in
/-- As many bytes from the beginning on as are such. -/
theorem tokRun_any (s : ByteArray) (p : Int → Bool) (k : Nat) (w : World) (hs : s.size ≤ maxLen) (hcf : ∀ (args : Array Value) (w : World), (callFunc k args).run Tryd.prog w = .ok (.enter k args) w) (hp : ∀ (c : Int) (w : World), Calls Tryd.prog k #[.int .u8 c] w fun e w' => e = .returned (.bool (p c)) ∧ w = w') :
    Calls Tryd.prog 26 #[.string s, .func (.func k) #[] #[]] w fun e w' => e = .returned (.string (s.extract 0 (runN p s.data.toList))) ∧ w = w' := by
  unfold maxLen at hs
  go_enter Tryd.func26, Tryd.ntmps26
  go_wp2
  go_loop [5] (fun i => ∃ n : Nat, n ≤ s.size ∧ i = .int .i64 n ∧ Hid (runN p s.data.toList = runN p (s.data.toList.drop n) + n)) (fun i => s.size - (intOf i).toNat)
  case atStart => exact ⟨0, Nat.zero_le _, rfl, by simp [Hid]⟩
  case round =>
    obtain ⟨n, hn, rfl, HA⟩ := hrel
    by_cases hlt : n < s.size
    · cases hc : p (s[n].toNat : Int) with
      | true =>
        have HS := Lib.hid (HA.out.trans (by rw [runN_here hlt hc]))
        go_wp2_with (first | ((with_reducible refine (hp _ _).mono ?_); go_must (rintro e w' ⟨rfl, rfl⟩; rw [hc])) | fail)
        go_round
        case rel => exact ⟨n + 1, by omega, by go_num, HS.out.trans (by omega)⟩
        case measure => simp [intOf]; omega
      | false =>
        have HS := Lib.hid (HA.out.trans (by rw [runN_stop hlt hc, Nat.zero_add]))
        go_wp2_with (first | ((with_reducible refine (hp _ _).mono ?_); go_must (rintro e w' ⟨rfl, rfl⟩; rw [hc])) | fail)
        go_ret
        exact ⟨by rw [HS.out]; rfl, rfl⟩
    · obtain rfl : n = s.size := by omega
      have HS := Lib.hid (HA.out.trans (by rw [runN_end (Nat.le_refl _), Nat.zero_add]))
      go_wp2
      go_ret
      exact ⟨by rw [HS.out]; simp, rfl⟩

theorem tokRunWord_any (s : ByteArray) (w : World) (hs : s.size ≤ maxLen) : Calls Tryd.prog 26 #[.string s, .func (.func 27) #[] #[]] w fun e w' => e = .returned (.string (s.extract 0 (runN nameC s.data.toList))) ∧ w = w' :=
  tokRun_any s nameC _ w hs (fun args w => enters_of Tryd.func27 (by kernel_rfl) rfl args w) tokWord_any

theorem tokRunDigit_any (s : ByteArray) (w : World) (hs : s.size ≤ maxLen) : Calls Tryd.prog 26 #[.string s, .func (.func 38) #[] #[]] w fun e w' => e = .returned (.string (s.extract 0 (runN digitC s.data.toList))) ∧ w = w' :=
  tokRun_any s digitC _ w hs (fun args w => enters_of Tryd.func38 (by kernel_rfl) rfl args w) tokDigit_any

theorem tokRunQuot_any (s : ByteArray) (w : World) (hs : s.size ≤ maxLen) : Calls Tryd.prog 26 #[.string s, .func (.func 47) #[] #[]] w fun e w' => e = .returned (.string (s.extract 0 (runN quotC s.data.toList))) ∧ w = w' :=
  tokRun_any s quotC _ w hs (fun args w => enters_of Tryd.func47 (by kernel_rfl) rfl args w) tokQuotable_any

theorem hasPre_iff (s p : ByteArray) : (decide (p.size ≤ s.size) && decide (s.extract 0 p.size = p)) = p.data.toList.isPrefixOf s.data.toList := by
  rw [Bool.eq_iff_iff, List.isPrefixOf_iff_prefix, List.prefix_iff_eq_take, Bool.and_eq_true, decide_eq_true_eq, decide_eq_true_eq]
  constructor
  · rintro ⟨h1, h2⟩
    have := congrArg (fun b : ByteArray => b.data.toList) h2
    simp only [toList_ext, List.drop_zero, Nat.sub_zero] at this
    rw [toList_len]; exact this.symm
  · intro h
    have hl := congrArg List.length h
    rw [List.length_take, toList_len, toList_len] at hl
    refine ⟨by omega, ByteArray.ext (Array.toList_inj.1 ?_)⟩
    rw [toList_ext, List.drop_zero, Nat.sub_zero]
    rw [toList_len] at h; exact h.symm

set_option maxHeartbeats 1000000 in
/-- Does a text begin with another one? -/
theorem hasPre0_any (s p : ByteArray) (w : World) : Calls Tryd.prog 39 #[.string s, .string p] w fun e w' => e = .returned (.bool (p.data.toList.isPrefixOf s.data.toList)) ∧ w = w' := by
  rw [← hasPre_iff]
  by_cases h1 : p.size ≤ s.size
  · by_cases h2 : s.extract 0 p.size = p
    · have hs : ((s.extract 0 p.size).toList == p.toList) = true := by rw [h2]; simp
      have hf := Lib.hid (show (decide (p.size ≤ s.size) && decide (s.extract 0 p.size = p)) = true by simp [h1, h2])
      clear h2
      go_enter Tryd.func39, Tryd.ntmps39
      go_wp2
      go_ret
      exact ⟨ret_bool hf.out.symm, rfl⟩
    · have hs : ((s.extract 0 p.size).toList == p.toList) = false := by
        rw [beq_eq_false_iff_ne]
        intro e
        rw [ByteArray.toList_eq, ByteArray.toList_eq] at e
        exact h2 (ByteArray.ext (Array.toList_inj.1 e))
      have hf := Lib.hid (show (decide (p.size ≤ s.size) && decide (s.extract 0 p.size = p)) = false by simp [h2])
      clear h2
      go_enter Tryd.func39, Tryd.ntmps39
      go_wp2
      go_ret
      exact ⟨ret_bool hf.out.symm, rfl⟩
  · have hf := Lib.hid (show (decide (p.size ≤ s.size) && decide (s.extract 0 p.size = p)) = false by simp [h1])
    go_enter Tryd.func39, Tryd.ntmps39
    go_wp2
    go_ret
    exact ⟨ret_bool hf.out.symm, rfl⟩

set_option maxHeartbeats 400000 in
theorem hasPre_any (s p : ByteArray) (w : World) : Calls Tryd.prog 31 #[.string s, .string p] w fun e w' => e = .returned (.bool (p.data.toList.isPrefixOf s.data.toList)) ∧ w = w' := by
  have H : ∀ w : World, Calls Tryd.prog 39 #[.string s, .string p] w fun e w' => e = .returned (.bool (p.data.toList.isPrefixOf s.data.toList)) ∧ w = w' := fun w => hasPre0_any s p w
  generalize p.data.toList.isPrefixOf s.data.toList = b at H ⊢
  go_enter Tryd.func31, Tryd.ntmps31
  go_wp2_with (first | (go_at_call 39; refine (H _).mono ?_; rintro e w' ⟨rfl, rfl⟩) | fail)
  go_ret
  exact ⟨rfl, rfl⟩

end Go.Proofs.YtkpkhnaflohjpaaDoor

/- Token: where neither a blank nor a remark stands. -/

namespace Go.Proofs.YtkpkhnaflohjpaaDoor

open Go.RowKit Go.Shelf
set_option maxRecDepth 20000

theorem pre_two {s : ByteArray} {n : Nat} {a b : UInt8} (h : n < s.size) : [a, b].isPrefixOf (s.extract n s.size).data.toList = (decide (s[n] = a) && decide ((s.data.toList.drop (n + 1)).head? = some b)) := by
  rw [toList_ext, List.take_of_length_le (by rw [List.length_drop, toList_len]; exact Nat.le_refl _), drop_cons h]
  cases hd : s.data.toList.drop (n + 1) with
  | nil => simp [List.isPrefixOf]
  | cons d l =>
    rw [Bool.eq_iff_iff]
    simp [List.isPrefixOf]
    constructor
    · rintro ⟨h1, h2⟩; exact ⟨h1.symm, h2.symm⟩
    · rintro ⟨h1, h2⟩; exact ⟨h1.symm, h2.symm⟩

theorem u8_eq {c : UInt8} {k : Nat} (hk : k < 256) : ((c.toNat : Int) == (k : Int)) = decide (c = UInt8.ofNat k) := by
  rw [Bool.eq_iff_iff, beq_iff_eq, decide_eq_true_eq]
  constructor
  · intro h
    have h' : c.toNat = k := by omega
    rw [← h']; simp
  · rintro rfl
    simp; omega

theorem findEnd_step {s : ByteArray} {m : Nat} (h : m < s.size) (hp : [42, 47].isPrefixOf (s.extract m s.size).data.toList = false) : findEnd (s.data.toList.drop m) = (findEnd (s.data.toList.drop (m + 1))).map (· + 1) := by
  rw [pre_two h] at hp
  rw [drop_cons h, findEnd, if_neg]
  rintro ⟨h1, h2⟩
  simp [h1, h2] at hp

theorem findEnd_hit {s : ByteArray} {m : Nat} (h : m < s.size) (hp : [42, 47].isPrefixOf (s.extract m s.size).data.toList = true) : findEnd (s.data.toList.drop m) = some 0 ∧ m + 2 ≤ s.size := by
  rw [pre_two h] at hp
  simp only [Bool.and_eq_true, decide_eq_true_eq] at hp
  have : findEnd (s.data.toList.drop m) = some 0 := by rw [drop_cons h, findEnd, if_pos hp]
  have h2 := findEnd_le this
  rw [List.length_drop, toList_len] at h2
  exact ⟨this, by omega⟩

theorem hasPre_to {s p : ByteArray} {b : Bool} (h : p.data.toList.isPrefixOf s.data.toList = b) (w : World) : Calls Tryd.prog 31 #[.string s, .string p] w fun e w' => e = .returned (.bool b) ∧ w = w' := h ▸ hasPre_any s p w

set_option maxHeartbeats 4000000 in
/-- The first place, from k on, where neither a blank nor a remark stands. -/
theorem tokGap_any (s : ByteArray) (k : Nat) (w : World) (hk : k ≤ s.size) (hs : s.size ≤ maxLen) :
    Calls Tryd.prog 21 #[.string s, .int .i64 (k : Int)] w fun e w' => e = .returned (.int .i64 (gapP s.data.toList k : Int)) ∧ w = w' := by
  unfold maxLen at hs
  go_enter Tryd.func21, Tryd.ntmps21
  go_wp2
  go_step3
  go_wp2
  go_step3
  go_wp2
  go_loopg [1] (s.size - k) (fun g i wx => ∃ n : Nat, n + g = s.size ∧ i = .int .i64 n ∧ wx = w ∧ Hid (gapP s.data.toList k = gapP s.data.toList n))
  case atStart => exact ⟨k, by omega, rfl, rfl, Lib.hid rfl⟩
  case round =>
    obtain ⟨n, hn, rfl, rfl, HA⟩ := hrel
    by_cases hlt : n < s.size
    · have hsk := skipN_cons s[n] (s.data.toList.drop (n + 1))
      rw [← drop_cons hlt] at hsk
      cases hb : blankC (s[n].toNat : Int) with
      | true =>
        rw [if_pos hb] at hsk
        have HS := Lib.hid (HA.out.trans (gapP_skip hsk (by omega)))
        clear hsk
        go_wp2_with (first | (go_at_call 30; refine (tokBlank_any _ _).mono ?_; rintro e w' ⟨rfl, rfl⟩; rw [hb]) | fail)
        go_roundg (s.size - (n + 1))
        case measure => omega
        case rel => exact ⟨n + 1, by omega, by go_num, rfl, HS⟩
      | false =>
        rw [if_neg (by rw [hb]; simp)] at hsk
        have h37 : ((s[n].toNat : Int) == 37) = decide (s[n] = 37) := u8_eq (k := 37) (by omega)
        by_cases h3 : s[n] = 37
        · rw [if_pos h3] at hsk
          rw [decide_eq_true h3] at h37
          have hl : lineC (s[n].toNat : Int) = true := by rw [h3]; decide
          have h1 := runN_here (p := lineC) hlt hl
          have HS := Lib.hid hsk
          have H1 := Lib.hid h1
          have h37' : ((s[n].toNat : Int) == 37) = true := h37
          clear hsk h1 h37 h3
          go_wp2_with (first | (go_at_call 30; refine (tokBlank_any _ _).mono ?_; rintro e w' ⟨rfl, rfl⟩; rw [hb]) | fail)
          go_loopg [1] (s.size - n) (fun g i wx => ∃ m : Nat, n ≤ m ∧ m + g = s.size ∧ i = .int .i64 m ∧ wx = wr ∧ Hid (runN lineC (s.data.toList.drop n) = runN lineC (s.data.toList.drop m) + (m - n)))
          case atStart => exact ⟨n, Nat.le_refl _, by omega, rfl, rfl, Lib.hid (by simp)⟩
          case round =>
            obtain ⟨m, hnm, hm, rfl, rfl, HB⟩ := hrel
            by_cases hml : m < s.size
            · have h10 : ((s[m].toNat : Int) == 10) = decide (s[m] = 10) := u8_eq (k := 10) (by omega)
              by_cases h4 : s[m] = 10
              · rw [decide_eq_true h4] at h10
                have h10' : ((s[m].toNat : Int) == 10) = true := h10
                have hz := runN_stop (p := lineC) hml (by rw [h4]; decide)
                have hsk2 : skipN (s.data.toList.drop n) = m - n := HS.out.trans (HB.out.trans (by omega))
                have hps : 0 < m - n := by have := H1.out; have := HS.out; omega
                have hg := HA.out.trans (gapP_skip hsk2 hps)
                rw [show n + (m - n) = m by omega] at hg
                have HG := Lib.hid hg
                clear hz hsk2 hg h10 h4
                go_wp2
                go_roundg (s.size - m)
                case measure => omega
                case rel => exact ⟨m, by omega, rfl, rfl, HG⟩
              · rw [decide_eq_false h4] at h10
                have h10' : ((s[m].toNat : Int) == 10) = false := h10
                have hl2 : lineC (s[m].toNat : Int) = true := by
                  simp only [lineC, decide_eq_true_eq]
                  intro e
                  rw [e] at h10'
                  simp at h10'
                have HG := Lib.hid (HB.out.trans (by rw [runN_here hml hl2]; omega : _ = runN lineC (s.data.toList.drop (m + 1)) + (m + 1 - n)))
                clear h10 h4 hl2
                go_wp2
                go_roundg (s.size - (m + 1))
                case measure => omega
                case rel => exact ⟨m + 1, by omega, by omega, by go_num, rfl, HG⟩
            · obtain rfl : m = s.size := by omega
              have hz := runN_end (p := lineC) (s := s) (Nat.le_refl _)
              have hsk2 : skipN (s.data.toList.drop n) = s.size - n := HS.out.trans (HB.out.trans (by omega))
              have hg := HA.out.trans (gapP_skip hsk2 (by omega))
              rw [show n + (s.size - n) = s.size by omega] at hg
              have HG := Lib.hid hg
              clear hz hsk2 hg
              go_wp2
              go_roundg 0
              case measure => omega
              case rel => exact ⟨s.size, by omega, rfl, rfl, HG⟩
        · rw [if_neg h3] at hsk
          rw [decide_eq_false h3] at h37
          have h37' : ((s[n].toNat : Int) == 37) = false := h37
          have hpt := pre_two (a := 47) (b := 42) hlt
          by_cases hc : s[n] = 47 ∧ (s.data.toList.drop (n + 1)).head? = some 42
          · rw [if_pos hc, List.tail_drop] at hsk
            have hq : (⟨#[47, 42]⟩ : ByteArray).data.toList.isPrefixOf (s.extract n s.size).data.toList = true := hpt.trans (by simp [hc.1, hc.2])
            have Hq := Lib.hid (fun w => hasPre_to hq w)
            have hn2 : n + 2 ≤ s.size := by
              rcases Nat.lt_or_ge (n + 1) s.size with h | h
              · omega
              · rw [List.drop_eq_nil_of_le (by rw [toList_len]; exact h)] at hc; simp at hc
            have HS := Lib.hid hsk
            clear hpt hq hc h37 h3 hsk
            go_wp2_with (first
              | (go_at_call 30; refine (tokBlank_any _ _).mono ?_; rintro e w' ⟨rfl, rfl⟩; rw [hb])
              | (go_at_call 31; (with_reducible refine (Hq.out _).mono ?_); go_must (rintro e w' ⟨rfl, rfl⟩))
              | fail)
            go_loopg [1, 5] (s.size - (n + 2)) (fun g a i wx => ∃ m : Nat, n + 2 ≤ m ∧ m + g = s.size ∧ a = .int .i64 n ∧ i = .int .i64 m ∧ wx = wr ∧ Hid (findEnd (s.data.toList.drop (n + 2)) = (findEnd (s.data.toList.drop m)).map (· + (m - (n + 2)))))
            case atStart => exact ⟨n + 2, Nat.le_refl _, by omega, rfl, by go_num, rfl, Lib.hid (by simp)⟩
            case round =>
              obtain ⟨m, hnm, hm, rfl, rfl, rfl, HB⟩ := hrel
              by_cases hml : m < s.size
              · cases hq : (⟨#[42, 47]⟩ : ByteArray).data.toList.isPrefixOf (s.extract m s.size).data.toList with
                | true =>
                  obtain ⟨h1, h2⟩ := findEnd_hit hml hq
                  have hsk2 : skipN (s.data.toList.drop n) = m + 2 - n := by
                    have h3 := HS.out
                    have h4 := HB.out
                    rw [h1] at h4
                    simp only [Option.map_some, Nat.zero_add] at h4
                    rw [h4] at h3
                    simp only at h3
                    omega
                  have hg := HA.out.trans (gapP_skip hsk2 (by omega))
                  rw [show n + (m + 2 - n) = m + 2 by omega] at hg
                  have HG := Lib.hid hg
                  have Hq2 := Lib.hid (fun w => hasPre_to hq w)
                  clear hsk2 hg h1 hq
                  go_wp2_with (first
                    | (go_at_call 31; (with_reducible refine (Hq2.out _).mono ?_); go_must (rintro e w' ⟨rfl, rfl⟩))
                    | fail)
                  go_roundg (s.size - (m + 2))
                  case measure => omega
                  case rel => exact ⟨m + 2, by omega, by go_num, rfl, HG⟩
                | false =>
                  have h1 := findEnd_step hml hq
                  have HG : Hid (findEnd (s.data.toList.drop (n + 2)) = (findEnd (s.data.toList.drop (m + 1))).map (· + (m + 1 - (n + 2)))) := Lib.hid (by
                    rw [HB.out, h1, Option.map_map]
                    congr 1
                    funext x
                    simp only [Function.comp]
                    omega)
                  have Hq2 := Lib.hid (fun w => hasPre_to hq w)
                  clear h1 hq
                  go_wp2_with (first
                    | (go_at_call 31; (with_reducible refine (Hq2.out _).mono ?_); go_must (rintro e w' ⟨rfl, rfl⟩))
                    | fail)
                  go_roundg (s.size - (m + 1))
                  case measure => omega
                  case rel => exact ⟨m + 1, by omega, by omega, rfl, by go_num, rfl, HG⟩
              · obtain rfl : m = s.size := by omega
                have hsk2 : skipN (s.data.toList.drop n) = 0 := by
                  have h4 := HB.out
                  rw [show s.data.toList.drop s.size = [] from List.drop_eq_nil_of_le (by rw [toList_len]; exact Nat.le_refl _)] at h4
                  have h3 := HS.out
                  rw [h4] at h3
                  exact h3
                have HG := Lib.hid (HA.out.trans (gapP_stop hsk2))
                clear hsk2
                go_wp2
                try rw [Exit.noGoto_ret]
                go_ret
                exact ⟨by rw [HG.out]; rfl, rfl⟩
          · rw [if_neg hc] at hsk
            have hq : (⟨#[47, 42]⟩ : ByteArray).data.toList.isPrefixOf (s.extract n s.size).data.toList = false := hpt.trans (by
              rw [Bool.eq_false_iff]
              intro h
              simp only [Bool.and_eq_true, decide_eq_true_eq] at h
              exact hc h)
            have Hq := Lib.hid (fun w => hasPre_to hq w)
            have HG := Lib.hid (HA.out.trans (gapP_stop hsk))
            clear hpt hq hc h37 h3 hsk
            go_wp2_with (first
              | (go_at_call 30; refine (tokBlank_any _ _).mono ?_; rintro e w' ⟨rfl, rfl⟩; rw [hb])
              | (go_at_call 31; (with_reducible refine (Hq.out _).mono ?_); go_must (rintro e w' ⟨rfl, rfl⟩))
              | fail)
            try rw [Exit.noGoto_ret]
            go_ret
            exact ⟨by rw [HG.out]; rfl, rfl⟩
    · obtain rfl : n = s.size := by omega
      have HS : Hid (gapP s.data.toList k = s.size) := Lib.hid (HA.out.trans (by have := gapP_end (L := s.data.toList); rwa [toList_len] at this))
      go_wp2
      rw [Exit.noGoto_ret]
      go_ret
      exact ⟨by rw [HS.out]; rfl, rfl⟩

end Go.Proofs.YtkpkhnaflohjpaaDoor

/- Token: with which token a text begins. -/

namespace Go.Proofs.YtkpkhnaflohjpaaDoor

open Go.RowKit Go.Shelf
set_option maxRecDepth 20000

/-- The variable with the signs. -/
def sgn (w : World) : Prop := (∀ (i : Nat) (p : List UInt8), signsL[i]? = some p → w.cell? ⟨0, i, none⟩ = some (.string ⟨p.toArray⟩)) ∧ 0 < w.heap.size

theorem sgn_on {B : Nat} {w w' : World} (h : sgn w) (hb : Below B w w') (hB : 0 < B) : sgn w' := ⟨fun i p hp => cell_on hb hB (h.1 i p hp), Nat.lt_of_lt_of_le h.2 hb.size⟩

theorem sgn_below {w w' : World} (h : sgn w) (hb : Below w.heap.size w w') : sgn w' := sgn_on h hb h.2

/-- A token's kind and text as a call's results. -/
def tokV (s : ByteArray) (f : Nat × Nat × Nat) : Value := .tuple #[.int .i64 (f.1 : Int), .string (s.extract f.2.1 f.2.2)]

theorem ext_nil (s : ByteArray) (k : Nat) : s.extract k k = ⟨#[]⟩ := by
  apply ByteArray.ext
  apply Array.toList_inj.1
  rw [toList_ext]; simp

theorem tokV_none (s : ByteArray) : tokV s (0, 0, 0) = .tuple #[.int .i64 0, .string ⟨#[]⟩] := by
  show Value.tuple #[_, .string (s.extract 0 0)] = _
  rw [ext_nil]; rfl

def signT (l : List UInt8) : Nat × Nat × Nat := if signN l = 0 then (0, 0, 0) else (6, 0, signN l)

theorem pre_ext {s : ByteArray} {p : List UInt8} (h : p.isPrefixOf s.data.toList = true) : s.extract 0 p.length = ⟨p.toArray⟩ := by
  rw [List.isPrefixOf_iff_prefix, List.prefix_iff_eq_take] at h
  apply ByteArray.ext
  apply Array.toList_inj.1
  rw [toList_ext, List.drop_zero, Nat.sub_zero]
  simpa using h.symm

/-- The signs as an array's cells. -/
def signsV : Array Value := (signsL.map fun p => Value.string ⟨p.toArray⟩).toArray

theorem signs_load {w : World} (hg : sgn w) : (loadVar 59 ⟨0, 0, none⟩).run Tryd.prog w = .ok (.agg signsV) w := by
  have := run_loadCells_list (P := Tryd.prog) w ⟨0, 0, none⟩ signsV.toList (fun j v hv => by
    have hadd : (⟨0, 0, none⟩ : Addr).add j = ⟨0, j, none⟩ := by unfold Addr.add; split <;> simp_all
    rw [hadd]
    have hv' : (signsL.map fun p => Value.string ⟨p.toArray⟩)[j]? = some v := by simpa [signsV] using hv
    rw [List.getElem?_map] at hv'
    cases hp : signsL[j]? with
    | none => rw [hp] at hv'; simp at hv'
    | some p =>
      rw [hp] at hv'
      simp at hv'
      subst hv'
      exact hg.1 j p hp)
  have hl : signsV.toList.length = 20 := rfl
  rw [hl] at this
  simp only [loadVar, Tryd.isAgg59, Tryd.sizeOf59, Sem.run_bind, Result.andThen, if_true]
  rw [this]
  simp

theorem wpList_load_at {P : Program} {ops : Array Oper} {o : Oper} {rest : List Oper} {a : Act} {w : World} {Q : Exit → Act → World → Prop} (hg : o.guard = none) (t : TypeId) (x : Operand) (ad : Addr) (hop : o.op = .load t x) (hx : a.eval x = .pointer (some ad)) (v : Value) (hv : (loadVar t ad).run P w = .ok v w)
    (h : wpList P ops Q rest (a.put o.dst v) w) : wpList P ops Q (o :: rest) a w := wpList_plain hg fun K hK => by
  unfold Oper.wp
  have : (execOp a.eval o).run P w = .ok (.value v) w := by simp [execOp, hop, hx, Instr.loadAt, Instr.sureAddr, hv, Result.andThen]
  rw [this, Oper.upon_value]
  exact hK _ _ h

theorem signs_at : ∀ (k : Nat) (p : List UInt8) (w : World), signsL[k]? = some p → (Instr.index 59 (.agg signsV) (.int .i64 (k : Int))).run Tryd.prog w = .ok (.string ⟨p.toArray⟩) w := by
  intro k p w h
  have hk : k < 20 := (List.getElem?_eq_some_iff.1 h).1
  have e : signsV[k]? = some (.string ⟨p.toArray⟩) := by simp [signsV, h]
  simp [Instr.index, asIntOf, run_underlying Tryd.underlying59, part, Tryd.isAgg9, Tryd.sizeOf9, e, hk, Result.andThen]

set_option maxHeartbeats 4000000 in
theorem tokSign_any (s : ByteArray) (w : World) (hg : sgn w) : Calls Tryd.prog 42 #[.string s] w fun e w' => e = .returned (tokV s (signT s.data.toList)) ∧ w = w' := by
  have hlc := signs_load hg
  obtain ⟨SV, hSV⟩ : ∃ SV, signsV = SV := ⟨_, rfl⟩
  have hat := signs_at
  rw [hSV] at hlc hat
  have Hat := Lib.hid hat
  clear hSV hat
  go_enter Tryd.func42, Tryd.ntmps42
  go_wp2_with (first | (refine wpList_load_at rfl _ (.global 0) ⟨0, 0, none⟩ rfl rfl _ hlc ?_) | fail)
  go_loop [7] (fun i => ∃ k : Nat, k ≤ 20 ∧ i = .int .i64 k ∧ Hid (signsL.find? (fun p => p.isPrefixOf s.data.toList) = (signsL.drop k).find? (fun p => p.isPrefixOf s.data.toList))) (fun i => 20 - (intOf i).toNat)
  case atStart => exact ⟨0, by omega, rfl, Lib.hid rfl⟩
  case round =>
    obtain ⟨k, hk, rfl, HA⟩ := hrel
    by_cases hlt : k < 20
    · obtain ⟨p, hp⟩ : ∃ p, signsL[k]? = some p := ⟨_, List.getElem?_eq_getElem hlt⟩
      have hix := fun w => Hat.out k p w hp
      have hd : signsL.drop k = p :: signsL.drop (k + 1) := by
        obtain ⟨h1, h2⟩ := List.getElem?_eq_some_iff.1 hp
        rw [List.drop_eq_getElem_cons h1, h2]
      have h1 := HA.out
      rw [hd, List.find?_cons] at h1
      cases hq : p.isPrefixOf s.data.toList with
      | true =>
        rw [hq] at h1
        have hz := signs_pos p (List.mem_of_getElem? hp)
        have hfin : tokV s (signT s.data.toList) = .tuple #[.int .i64 6, .string ⟨p.toArray⟩] := by
          have e : signN s.data.toList = p.length := by unfold signN; rw [h1]
          unfold signT
          rw [e, if_neg (by omega)]
          show Value.tuple #[_, .string (s.extract 0 p.length)] = _
          rw [pre_ext hq]; rfl
        have HF := Lib.hid hfin
        have Hq := Lib.hid (fun w => hasPre_to (s := s) (p := ⟨p.toArray⟩) (b := true) hq w)
        clear h1 hd hfin hq hp
        go_wp2_with (first
          | (go_at_call 31; (with_reducible refine (Hq.out _).mono ?_); go_must (rintro e w' ⟨rfl, rfl⟩))
          | fail)
        exact bodyPost_ret (v := .tuple #[.int .i64 6, .string ⟨p.toArray⟩]) (by simp [results, Tryd.results42, go_sem]) rfl ⟨by rw [HF.out], rfl⟩
      | false =>
        rw [hq] at h1
        have HB := Lib.hid h1
        have Hq := Lib.hid (fun w => hasPre_to (s := s) (p := ⟨p.toArray⟩) (b := false) hq w)
        clear h1 hd hq hp
        go_wp2_with (first
          | (go_at_call 31; (with_reducible refine (Hq.out _).mono ?_); go_must (rintro e w' ⟨rfl, rfl⟩))
          | fail)
        go_round
        case rel => exact ⟨k + 1, by omega, by go_num, HB⟩
        case measure => simp [intOf]; omega
    · obtain rfl : k = 20 := by omega
      have hfin : tokV s (signT s.data.toList) = .tuple #[.int .i64 0, .string ⟨#[]⟩] := by
        have e : signN s.data.toList = 0 := by unfold signN; rw [HA.out]; rfl
        unfold signT
        rw [e, if_pos rfl]
        exact tokV_none s
      have HF := Lib.hid hfin
      clear hfin
      go_wp2
      exact bodyPost_ret (v := .tuple #[.int .i64 0, .string ⟨#[]⟩]) (by simp [results, Tryd.results42, go_sem]) rfl ⟨by rw [HF.out], rfl⟩

end Go.Proofs.YtkpkhnaflohjpaaDoor

/- Token: the token with which a text begins, walked. -/

namespace Go.Proofs.YtkpkhnaflohjpaaDoor

open Go.RowKit Go.Shelf
set_option maxRecDepth 100000

def dollarT (l : List UInt8) : Nat × Nat × Nat := if (match l with | d :: _ => smallC (d.toNat : Int) | [] => false) then (3, 0, 1 + runN nameC l) else (0, 0, 0)

def quotedT (l : List UInt8) : Nat × Nat × Nat := if runN quotC l = 0 then (0, 0, 0) else if (l.drop (runN quotC l)).head? = some 39 then (4, 1, 1 + runN quotC l) else (0, 0, 0)

theorem firstT_cons (c : UInt8) (l : List UInt8) : firstT (c :: l) = if smallC (c.toNat : Int) then (1, 0, runN nameC (c :: l)) else if greatC (c.toNat : Int) then (2, 0, runN nameC (c :: l)) else if digitC (c.toNat : Int) then (5, 0, runN digitC (c :: l))
    else if c = 36 then dollarT l else if c = 39 then quotedT l else signT (c :: l) := rfl

theorem ext_list (s : ByteArray) (a : Nat) : (s.extract a s.size).data.toList = s.data.toList.drop a := by
  rw [toList_ext, List.take_of_length_le (by rw [List.length_drop, toList_len]; exact Nat.le_refl _)]

theorem ext_ext (s : ByteArray) (a i j : Nat) : (s.extract a s.size).extract i j = s.extract (a + i) (a + j) := by
  apply ByteArray.ext
  apply Array.toList_inj.1
  rw [toList_ext, ext_list, toList_ext, List.drop_drop, show a + j - (a + i) = j - i by omega]

theorem small_name {c : Int} (h : smallC c = true) : nameC c = true := by
  simp only [smallC, nameC, decide_eq_true_eq] at h ⊢; omega

theorem get_ext {s : ByteArray} {a r : Nat} (h : a + r ≤ s.size) (hr : 0 < r) (h0 : 0 < (s.extract a (a + r)).size) : (s.extract a (a + r))[0] = s[a]'(by omega) := by
  have h1 : (s.extract a (a + r)).data.toList[0]? = some (s.extract a (a + r))[0] := by
    rw [List.getElem?_eq_getElem (by rw [toList_len]; exact h0)]; rfl
  rw [toList_ext, List.getElem?_take, if_pos (by omega), List.getElem?_drop, List.getElem?_eq_getElem (by rw [toList_len]; omega)] at h1
  injection h1 with h1
  exact h1.symm

set_option maxHeartbeats 4000000 in
theorem tokDollar_any (s : ByteArray) (w : World) (h0 : 0 < s.size) (hs : s.size ≤ 1099511627776) : Calls Tryd.prog 40 #[.string s] w fun e w' => e = .returned (tokV s (dollarT (s.data.toList.drop 1))) ∧ Below w.heap.size w w' := by
  have hrl := runN_le nameC (s.data.toList.drop 1)
  rw [List.length_drop, toList_len] at hrl
  have hrun := fun w => tokRunWord_any (s.extract 1 s.size) w (by rw [size_ext _ _ _ (Nat.le_refl _)]; unfold maxLen; omega)
  rw [ext_list] at hrun
  obtain ⟨r, hr⟩ : ∃ r, runN nameC (s.data.toList.drop 1) = r := ⟨_, rfl⟩
  rw [hr] at hrun hrl
  rw [ext_ext, Nat.add_zero] at hrun
  obtain ⟨wd, hwd⟩ : ∃ wd, s.extract 1 (1 + r) = wd := ⟨_, rfl⟩
  have hsz : wd.size = r := by rw [← hwd, size_ext _ _ _ (by omega)]; omega
  rw [hwd] at hrun
  have Hrun := Lib.hid hrun
  clear hrun
  by_cases hz : r = 0
  · have hw0 : wd = ⟨#[]⟩ := by rw [← hwd, hz, Nat.add_zero, ext_nil]
    have hf : tokV s (dollarT (s.data.toList.drop 1)) = .tuple #[.int .i64 0, .string ⟨#[]⟩] := by
      have : dollarT (s.data.toList.drop 1) = (0, 0, 0) := by
        unfold dollarT
        rw [if_neg]
        cases hd : s.data.toList.drop 1 with
        | nil => simp
        | cons d l =>
          rw [hd] at hr
          intro h
          have := small_name h
          rw [runN, if_pos this] at hr
          omega
      rw [this, tokV_none]
    have HF := Lib.hid hf
    subst hw0
    clear hf hr hwd hsz hz
    go_enter Tryd.func40, Tryd.ntmps40
    go_wp2_with (first | (go_at_call 26; (with_reducible refine (Hrun.out _).mono ?_); go_must (rintro e w' ⟨rfl, rfl⟩)) | fail)
    exact bodyPost_ret (v := .tuple #[.int .i64 0, .string ⟨#[]⟩]) (by simp [results, Tryd.results40, go_sem]) rfl ⟨by rw [HF.out], Below.refl _ _⟩
  · have hd : s.data.toList.drop 1 = s[1] :: s.data.toList.drop 2 := drop_cons (by omega)
    have hg : wd[0]'(by omega) = s[1]'(by omega) := by
      subst hwd
      exact get_ext (by omega) (by omega) _
    have hw0 : 0 < wd.size := by omega
    have hne : (wd.toList == ([] : List UInt8)) = false := by
      rw [ByteArray.toList_eq, beq_eq_false_iff_ne]
      intro e
      have := congrArg List.length e
      rw [toList_len] at this
      simp only [List.length_nil] at this
      omega
    cases hsm : smallC ((s[1]'(by omega)).toNat : Int) with
    | true =>
      have hf : tokV s (dollarT (s.data.toList.drop 1)) = .tuple #[.int .i64 3, .string (s.extract 0 (1 + r))] := by
        have : dollarT (s.data.toList.drop 1) = (3, 0, 1 + r) := by
          unfold dollarT
          rw [hr, hd]
          simp [hsm]
        rw [this]; rfl
      have HF := Lib.hid hf
      have hs1 : smallC ((wd[0]'hw0).toNat : Int) = true := by rw [hg]; exact hsm
      have Hs1 := Lib.hid hs1
      clear hf hr hwd hd hg hsm hs1
      go_enter Tryd.func40, Tryd.ntmps40
      go_wp2_with (first
        | (go_at_call 26; (with_reducible refine (Hrun.out _).mono ?_); go_must (rintro e w' ⟨rfl, rfl⟩))
        | (go_at_call 24; refine (tokSmall_any _ _).mono ?_; rintro e w' ⟨rfl, rfl⟩; rw [Hs1.out])
        | fail)
      go_quiet (fail)
      go_wp2
      exact bodyPost_ret (v := .tuple #[.int .i64 3, .string (s.extract 0 (1 + r))]) (by simp [results, Tryd.results40, go_sem]) rfl ⟨by rw [HF.out], bl_drewN (Below.refl _ _) _⟩
    | false =>
      have hf : tokV s (dollarT (s.data.toList.drop 1)) = .tuple #[.int .i64 0, .string ⟨#[]⟩] := by
        have : dollarT (s.data.toList.drop 1) = (0, 0, 0) := by
          unfold dollarT
          rw [hd]
          simp [hsm]
        rw [this, tokV_none]
      have HF := Lib.hid hf
      have hs1 : smallC ((wd[0]'hw0).toNat : Int) = false := by rw [hg]; exact hsm
      have Hs1 := Lib.hid hs1
      clear hf hr hwd hd hg hsm hs1
      go_enter Tryd.func40, Tryd.ntmps40
      go_wp2_with (first
        | (go_at_call 26; (with_reducible refine (Hrun.out _).mono ?_); go_must (rintro e w' ⟨rfl, rfl⟩))
        | (go_at_call 24; refine (tokSmall_any _ _).mono ?_; rintro e w' ⟨rfl, rfl⟩; rw [Hs1.out])
        | fail)
      exact bodyPost_ret (v := .tuple #[.int .i64 0, .string ⟨#[]⟩]) (by simp [results, Tryd.results40, go_sem]) rfl ⟨by rw [HF.out], Below.refl _ _⟩

set_option maxHeartbeats 4000000 in
theorem tokQuoted_any (s : ByteArray) (w : World) (h0 : 0 < s.size) (hs : s.size ≤ 1099511627776) : Calls Tryd.prog 41 #[.string s] w fun e w' => e = .returned (tokV s (quotedT (s.data.toList.drop 1))) ∧ w = w' := by
  have hrl := runN_le quotC (s.data.toList.drop 1)
  rw [List.length_drop, toList_len] at hrl
  have hrun := fun w => tokRunQuot_any (s.extract 1 s.size) w (by rw [size_ext _ _ _ (Nat.le_refl _)]; unfold maxLen; omega)
  rw [ext_list] at hrun
  obtain ⟨r, hr⟩ : ∃ r, runN quotC (s.data.toList.drop 1) = r := ⟨_, rfl⟩
  rw [hr] at hrun hrl
  rw [ext_ext, Nat.add_zero] at hrun
  obtain ⟨wd, hwd⟩ : ∃ wd, s.extract 1 (1 + r) = wd := ⟨_, rfl⟩
  have hsz : wd.size = r := by rw [← hwd, size_ext _ _ _ (by omega)]; omega
  rw [hwd] at hrun
  have Hrun := Lib.hid hrun
  clear hrun
  by_cases hz : r = 0
  · have hw0 : wd = ⟨#[]⟩ := by rw [← hwd, hz, Nat.add_zero, ext_nil]
    have hf : tokV s (quotedT (s.data.toList.drop 1)) = .tuple #[.int .i64 0, .string ⟨#[]⟩] := by
      unfold quotedT
      rw [hr, if_pos hz, tokV_none]
    have HF := Lib.hid hf
    subst hw0
    clear hf hr hwd hsz hz
    go_enter Tryd.func41, Tryd.ntmps41
    go_wp2_with (first | (go_at_call 26; (with_reducible refine (Hrun.out _).mono ?_); go_must (rintro e w' ⟨rfl, rfl⟩)) | fail)
    exact bodyPost_ret (v := .tuple #[.int .i64 0, .string ⟨#[]⟩]) (by simp [results, Tryd.results41, go_sem]) rfl ⟨by rw [HF.out], rfl⟩
  · have hw0 : 0 < wd.size := by omega
    have hne : (wd.toList == ([] : List UInt8)) = false := by
      rw [ByteArray.toList_eq, beq_eq_false_iff_ne]
      intro e
      have := congrArg List.length e
      rw [toList_len] at this
      simp only [List.length_nil] at this
      omega
    have hpre : ∀ b, (⟨#[39]⟩ : ByteArray).data.toList.isPrefixOf (s.extract (1 + r) s.size).data.toList = b ↔ decide ((s.data.toList.drop (1 + r)).head? = some 39) = b := fun b => by
      rw [ext_list]
      cases s.data.toList.drop (1 + r) with
      | nil => simp [List.isPrefixOf]
      | cons d l =>
        rw [show [39].isPrefixOf (d :: l) = decide (d = 39) by rw [Bool.eq_iff_iff]; simp [List.isPrefixOf]; exact eq_comm]
        simp
    by_cases hq : (s.data.toList.drop (1 + r)).head? = some 39
    · have hf : tokV s (quotedT (s.data.toList.drop 1)) = .tuple #[.int .i64 4, .string wd] := by
        unfold quotedT
        rw [hr, if_neg hz, List.drop_drop, if_pos hq]
        show Value.tuple #[_, .string (s.extract 1 (1 + r))] = _
        rw [hwd]; rfl
      have HF := Lib.hid hf
      have HP := Lib.hid (fun w => hasPre_to ((hpre true).2 (decide_eq_true hq)) w)
      clear hf hr hwd hq hpre
      subst hsz
      go_enter Tryd.func41, Tryd.ntmps41
      go_wp2_with (first
        | (go_at_call 26; (with_reducible refine (Hrun.out _).mono ?_); go_must (rintro e w' ⟨rfl, rfl⟩))
        | (go_at_call 31; (with_reducible refine (HP.out _).mono ?_); go_must (rintro e w' ⟨rfl, rfl⟩))
        | fail)
      exact bodyPost_ret (v := .tuple #[.int .i64 4, .string wd]) (by simp [results, Tryd.results41, go_sem]) rfl ⟨by rw [HF.out], rfl⟩
    · have hf : tokV s (quotedT (s.data.toList.drop 1)) = .tuple #[.int .i64 0, .string ⟨#[]⟩] := by
        unfold quotedT
        rw [hr, if_neg hz, List.drop_drop, if_neg hq, tokV_none]
      have HF := Lib.hid hf
      have HP := Lib.hid (fun w => hasPre_to ((hpre false).2 (decide_eq_false hq)) w)
      clear hf hr hwd hq hpre
      subst hsz
      go_enter Tryd.func41, Tryd.ntmps41
      go_wp2_with (first
        | (go_at_call 26; (with_reducible refine (Hrun.out _).mono ?_); go_must (rintro e w' ⟨rfl, rfl⟩))
        | (go_at_call 31; (with_reducible refine (HP.out _).mono ?_); go_must (rintro e w' ⟨rfl, rfl⟩))
        | fail)
      exact bodyPost_ret (v := .tuple #[.int .i64 0, .string ⟨#[]⟩]) (by simp [results, Tryd.results41, go_sem]) rfl ⟨by rw [HF.out], rfl⟩

theorem list_cons {s : ByteArray} (h : 0 < s.size) : s.data.toList = s[0] :: s.data.toList.drop 1 := by
  have := drop_cons h
  rwa [List.drop_zero] at this

theorem ne_empty {s : ByteArray} (h : 0 < s.size) : (s.toList == ([] : List UInt8)) = false := by
  rw [ByteArray.toList_eq, beq_eq_false_iff_ne]
  intro e
  have := congrArg List.length e
  rw [toList_len] at this
  simp only [List.length_nil] at this
  omega

theorem empty_eq {s : ByteArray} (h : s.size = 0) : s = ⟨#[]⟩ := ByteArray.ext (Array.eq_empty_of_size_eq_zero h)

theorem tokV_at (s : ByteArray) (f : Nat × Nat × Nat) : tokV s f = .tuple #[.int .i64 (f.1 : Int), .string (s.extract f.2.1 f.2.2)] := rfl

set_option maxHeartbeats 4000000 in
theorem tokFirst_any (s : ByteArray) (w : World) (hs : s.size ≤ 1099511627776) (hg : sgn w) : Calls Tryd.prog 32 #[.string s] w fun e w' => e = .returned (tokV s (firstT s.data.toList)) ∧ Below w.heap.size w w' := by
  by_cases h0 : s.size = 0
  · have := empty_eq h0
    subst this
    go_enter Tryd.func32, Tryd.ntmps32
    go_wp2
    exact bodyPost_ret (v := .tuple #[.int .i64 7, .string ⟨#[]⟩]) (by simp [results, Tryd.results32, go_sem]) rfl ⟨rfl, Below.refl _ _⟩
  · have h0' : 0 < s.size := by omega
    have hne := ne_empty h0'
    have hfc := firstT_cons s[0] (s.data.toList.drop 1)
    rw [← list_cons h0'] at hfc
    have hsm : s.size ≤ maxLen := by unfold maxLen; omega
    have HW := Lib.hid (fun w => tokRunWord_any s w hsm)
    have HD := Lib.hid (fun w => tokRunDigit_any s w hsm)
    cases h1 : smallC (s[0].toNat : Int) with
    | true =>
      rw [if_pos h1] at hfc
      have HF := Lib.hid (congrArg (tokV s) hfc)
      have H1 := Lib.hid h1
      clear hfc h1
      go_enter Tryd.func32, Tryd.ntmps32
      go_wp2_with (first
        | (go_at_call 24; refine (tokSmall_any _ _).mono ?_; rintro e w' ⟨rfl, rfl⟩; rw [H1.out])
        | (go_at_call 26; (with_reducible refine (HW.out _).mono ?_); go_must (rintro e w' ⟨rfl, rfl⟩))
        | fail)
      exact bodyPost_ret (v := .tuple #[.int .i64 1, .string (s.extract 0 (runN nameC s.data.toList))]) (by simp [results, Tryd.results32, go_sem]) rfl ⟨by rw [HF.out]; rfl, Below.refl _ _⟩
    | false =>
      rw [if_neg (by rw [h1]; simp)] at hfc
      have H1 := Lib.hid h1
      cases h2 : greatC (s[0].toNat : Int) with
      | true =>
        rw [if_pos h2] at hfc
        have HF := Lib.hid (congrArg (tokV s) hfc)
        have H2 := Lib.hid h2
        clear hfc h1 h2
        go_enter Tryd.func32, Tryd.ntmps32
        go_wp2_with (first
          | (go_at_call 24; refine (tokSmall_any _ _).mono ?_; rintro e w' ⟨rfl, rfl⟩; rw [H1.out])
          | (go_at_call 37; refine (tokGreat_any _ _).mono ?_; rintro e w' ⟨rfl, rfl⟩; rw [H2.out])
          | (go_at_call 26; (with_reducible refine (HW.out _).mono ?_); go_must (rintro e w' ⟨rfl, rfl⟩))
          | fail)
        exact bodyPost_ret (v := .tuple #[.int .i64 2, .string (s.extract 0 (runN nameC s.data.toList))]) (by simp [results, Tryd.results32, go_sem]) rfl ⟨by rw [HF.out]; rfl, Below.refl _ _⟩
      | false =>
        rw [if_neg (by rw [h2]; simp)] at hfc
        have H2 := Lib.hid h2
        cases h3 : digitC (s[0].toNat : Int) with
        | true =>
          rw [if_pos h3] at hfc
          have HF := Lib.hid (congrArg (tokV s) hfc)
          have H3 := Lib.hid h3
          clear hfc h1 h2 h3
          go_enter Tryd.func32, Tryd.ntmps32
          go_wp2_with (first
            | (go_at_call 24; refine (tokSmall_any _ _).mono ?_; rintro e w' ⟨rfl, rfl⟩; rw [H1.out])
            | (go_at_call 37; refine (tokGreat_any _ _).mono ?_; rintro e w' ⟨rfl, rfl⟩; rw [H2.out])
            | (go_at_call 38; refine (tokDigit_any _ _).mono ?_; rintro e w' ⟨rfl, rfl⟩; rw [H3.out])
            | (go_at_call 26; (with_reducible refine (HD.out _).mono ?_); go_must (rintro e w' ⟨rfl, rfl⟩))
            | fail)
          exact bodyPost_ret (v := .tuple #[.int .i64 5, .string (s.extract 0 (runN digitC s.data.toList))]) (by simp [results, Tryd.results32, go_sem]) rfl ⟨by rw [HF.out]; rfl, Below.refl _ _⟩
        | false =>
          rw [if_neg (by rw [h3]; simp)] at hfc
          have H3 := Lib.hid h3
          have h36 : ((s[0].toNat : Int) == 36) = decide (s[0] = 36) := u8_eq (k := 36) (by omega)
          have h39 : ((s[0].toNat : Int) == 39) = decide (s[0] = 39) := u8_eq (k := 39) (by omega)
          clear h1 h2 h3
          by_cases h4 : s[0] = 36
          · rw [if_pos h4] at hfc
            rw [decide_eq_true h4] at h36
            obtain ⟨f, hf⟩ : ∃ f, dollarT (s.data.toList.drop 1) = f := ⟨_, rfl⟩
            have HC := tokDollar_any s
            rw [hf] at hfc HC
            rw [hfc]
            have HC := Lib.hid HC
            clear hfc h4 h39 hf
            go_enter Tryd.func32, Tryd.ntmps32
            go_wp2_with (first
              | (go_at_call 24; refine (tokSmall_any _ _).mono ?_; rintro e w' ⟨rfl, rfl⟩; rw [H1.out])
              | (go_at_call 37; refine (tokGreat_any _ _).mono ?_; rintro e w' ⟨rfl, rfl⟩; rw [H2.out])
              | (go_at_call 38; refine (tokDigit_any _ _).mono ?_; rintro e w' ⟨rfl, rfl⟩; rw [H3.out])
              | (go_at_call 40; (with_reducible refine (HC.out _ h0' hs).mono ?_); go_must (rintro e w2 ⟨rfl, hb2⟩; rw [tokV_at]))
              | fail)
            exact bodyPost_ret (v := tokV s f) (by simp [results, Tryd.results32, go_sem, tokV]) rfl ⟨rfl, hb2⟩
          · rw [if_neg h4] at hfc
            rw [decide_eq_false h4] at h36
            by_cases h5 : s[0] = 39
            · rw [if_pos h5] at hfc
              rw [decide_eq_true h5] at h39
              obtain ⟨f, hf⟩ : ∃ f, quotedT (s.data.toList.drop 1) = f := ⟨_, rfl⟩
              have HC := tokQuoted_any s
              rw [hf] at hfc HC
              rw [hfc]
              have HC := Lib.hid HC
              clear hfc h4 h5 hf
              go_enter Tryd.func32, Tryd.ntmps32
              go_wp2_with (first
                | (go_at_call 24; refine (tokSmall_any _ _).mono ?_; rintro e w' ⟨rfl, rfl⟩; rw [H1.out])
                | (go_at_call 37; refine (tokGreat_any _ _).mono ?_; rintro e w' ⟨rfl, rfl⟩; rw [H2.out])
                | (go_at_call 38; refine (tokDigit_any _ _).mono ?_; rintro e w' ⟨rfl, rfl⟩; rw [H3.out])
                | (go_at_call 41; (with_reducible refine (HC.out _ h0' hs).mono ?_); go_must (rintro e w2 ⟨rfl, rfl⟩; rw [tokV_at]))
                | fail)
              exact bodyPost_ret (v := tokV s f) (by simp [results, Tryd.results32, go_sem, tokV]) rfl ⟨rfl, Below.refl _ _⟩
            · rw [if_neg h5] at hfc
              rw [decide_eq_false h5] at h39
              obtain ⟨f, hf⟩ : ∃ f, signT s.data.toList = f := ⟨_, rfl⟩
              have HC := fun w => tokSign_any s w
              rw [hf] at hfc HC
              rw [hfc]
              have HC := Lib.hid HC
              clear hfc h4 h5 hf
              go_enter Tryd.func32, Tryd.ntmps32
              go_wp2_with (first
                | (go_at_call 24; refine (tokSmall_any _ _).mono ?_; rintro e w' ⟨rfl, rfl⟩; rw [H1.out])
                | (go_at_call 37; refine (tokGreat_any _ _).mono ?_; rintro e w' ⟨rfl, rfl⟩; rw [H2.out])
                | (go_at_call 38; refine (tokDigit_any _ _).mono ?_; rintro e w' ⟨rfl, rfl⟩; rw [H3.out])
                | (go_at_call 42; (with_reducible refine (HC.out _ hg).mono ?_); go_must (rintro e w2 ⟨rfl, rfl⟩; rw [tokV_at]))
                | fail)
              exact bodyPost_ret (v := tokV s f) (by simp [results, Tryd.results32, go_sem, tokV]) rfl ⟨rfl, Below.refl _ _⟩

end Go.Proofs.YtkpkhnaflohjpaaDoor

/- stringslite.Clone: the library's contract at this program, as the kit's tools print it. -/
namespace Go.Proofs
open Go.Shelf
def Tryd.laysM316_ren : Go.Shelf.Ren := ⟨fun | 316 => 36 | n => n, fun | 9 => 9 | 3 => 3 | 4 => 4 | 37 => 57 | 0 => 0 | 127 => 58 | 5 => 5 | n => n, fun | n => n⟩
theorem Tryd.laysM316 : Go.Proofs.LaysM.n316 Tryd.prog Tryd.laysM316_ren := {
  mixed := by kernel_rfl
  f316 := Tryd.func36.trans (congrArg some (by kernel_rfl))
  t0 := Tryd.underlying0
  a0 := Tryd.isAgg0
  z0 := Tryd.sizeOf0
  v0 := Tryd.zeroValue0
  t3 := Tryd.underlying3
  a3 := Tryd.isAgg3
  z3 := Tryd.sizeOf3
  v3 := Tryd.zeroValue3
  t4 := Tryd.underlying4
  a4 := Tryd.isAgg4
  z4 := Tryd.sizeOf4
  v4 := Tryd.zeroValue4
  t9 := Tryd.underlying9
  a9 := Tryd.isAgg9
  z9 := Tryd.sizeOf9
  v9 := Tryd.zeroValue9
  t37 := Tryd.underlying57
  a37 := Tryd.isAgg57
  z37 := Tryd.sizeOf57
  v37 := Tryd.zeroValue57
  t127 := Tryd.underlying58
  a127 := Tryd.isAgg58
  z127 := Tryd.sizeOf58
  v127 := Tryd.zeroValue58
  t5 := Tryd.underlying5
  a5 := Tryd.isAgg5
  z5 := Tryd.sizeOf5
  v5 := Tryd.zeroValue5
  i0 := by kernel_rfl
  i3 := by kernel_rfl
  i4 := by kernel_rfl
  i5 := by kernel_rfl
  i9 := by kernel_rfl
  i37 := by kernel_rfl
  i127 := by kernel_rfl }
open Go.RowKit in
theorem Tryd.stringslite_Clone (s : ByteArray) (w : World) (hlim : s.size ≤ 281474976710656) :
    Calls Tryd.prog 36 #[.string s] w fun e w' => e = .returned (.string s) ∧ Below w.heap.size w w' := Any.stringslite_Clone Tryd.laysM316 s w hlim
end Go.Proofs

/- Token: the token at a place, walked. -/

namespace Go.Proofs.YtkpkhnaflohjpaaDoor

open Go.RowKit Go.Shelf
set_option maxRecDepth 100000

theorem sclone_any (s : ByteArray) (w : World) (hs : s.size ≤ 281474976710656) : Calls Tryd.prog 25 #[.string s] w fun e w' => e = .returned (.string s) ∧ Below w.heap.size w w' := by
  go_enter Tryd.func25, Tryd.ntmps25
  go_wp2_with (first | (go_at_call 36; refine (Tryd.stringslite_Clone s _ hs).mono ?_; rintro e w1 ⟨rfl, hb1⟩) | fail)
  go_ret
  exact ⟨rfl, hb1⟩

/-- A token as a value. -/
def Tk.v (t : Tk) : Value := .agg #[.int .i64 (t.kind : Int), .string t.txt, .int .i64 (t.pos : Int)]

def readV : Tk ⊕ Int → Value
  | .inl t => .tuple #[t.v, .int .i64 0]
  | .inr c => .tuple #[.agg #[.int .i64 0, .string ⟨#[]⟩, .int .i64 0], .int .i64 c]

theorem cells_tk {W : World} {b : Nat} {x y z : Value} {t : TypeId} (h : W.heap[b]? = some (.cells #[x, y, z] t)) : W.cell? ⟨b, 0, none⟩ = some x ∧ W.cell? ⟨b, 1, none⟩ = some y ∧ W.cell? ⟨b, 2, none⟩ = some z ∧ W.frozen? ⟨b, 0, none⟩ = false ∧ W.frozen? ⟨b, 1, none⟩ = false ∧ W.frozen? ⟨b, 2, none⟩ = false := by
  refine ⟨?_, ?_, ?_, ?_, ?_, ?_⟩ <;> simp [World.cell?, World.frozen?, h]

theorem set3_tk {W : World} {b : Nat} {x y z u v v' : Value} {t : TypeId} (h : W.heap[b]? = some (.cells #[x, y, z] t)) : (((W.setCell ⟨b, 0, none⟩ u).setCell ⟨b, 1, none⟩ v).setCell ⟨b, 2, none⟩ v').heap[b]? = some (.cells #[u, v, v'] t) :=
  have h1 : (W.setCell ⟨b, 0, none⟩ u).heap[b]? = some (.cells #[u, y, z] t) := heap_setCell_same W _ 0 _ _ _ h
  have h2 : ((W.setCell ⟨b, 0, none⟩ u).setCell ⟨b, 1, none⟩ v).heap[b]? = some (.cells #[u, v, z] t) := heap_setCell_same _ _ 1 _ _ _ h1
  heap_setCell_same _ _ 2 _ _ _ h2

theorem bl_set3 {m b : Nat} {w W : World} {u v v' : Value} (h : Below m w W) (hb : m ≤ b) : Below m w (((W.setCell ⟨b, 0, none⟩ u).setCell ⟨b, 1, none⟩ v).setCell ⟨b, 2, none⟩ v') := ((h.setCell hb _).setCell hb _).setCell hb _

set_option maxHeartbeats 4000000 in
theorem tokRead_any (s : ByteArray) (k : Nat) (w : World) (hk : k ≤ s.size) (hs : s.size ≤ 1099511627776) (hg : sgn w) : Calls Tryd.prog 22 #[.string s, .int .i64 (k : Int)] w fun e w' => e = .returned (readV (readT s k)) ∧ Below w.heap.size w w' := by
  have hfl := firstT_le (s.data.toList.drop k)
  rw [List.length_drop, toList_len] at hfl
  obtain ⟨f, hf⟩ : ∃ f, firstT (s.data.toList.drop k) = f := ⟨_, rfl⟩
  have hr : readT s k = if f.1 = 0 then .inr 220 else if f.1 ≠ 6 ∧ 40 < f.2.2 - f.2.1 then .inr 3 else .inl ⟨f.1, s.extract (k + f.2.1) (k + f.2.2), k⟩ := by unfold readT; rw [hf]
  have HC : Hid (∀ w', sgn w' → Calls Tryd.prog 32 #[.string (s.extract k s.size)] w' fun e w2 => e = .returned (.tuple #[.int .i64 (f.1 : Int), .string (s.extract (k + f.2.1) (k + f.2.2))]) ∧ Below w'.heap.size w' w2) := Lib.hid fun w' h => by
    have := tokFirst_any (s.extract k s.size) w' (by rw [size_ext _ _ _ (Nat.le_refl _)]; omega) h
    rw [ext_list, hf, tokV_at, ext_ext] at this
    exact this
  rw [hf] at hfl
  obtain ⟨kd, a, b⟩ := f
  simp only at hr hfl HC
  have hab := hfl.1
  have hbl := hfl.2.1
  obtain ⟨own, hown⟩ : ∃ own, s.extract (k + a) (k + b) = own := ⟨_, rfl⟩
  have hsz : own.size = b - a := by rw [← hown, size_ext _ _ _ (by omega)]; omega
  rw [hown] at HC hr
  obtain ⟨W, hW⟩ : ∃ W, w.alloc (.cells #[.int .i64 0, .string ⟨#[]⟩, .int .i64 0] 38) = W := ⟨_, rfl⟩
  have hB : Below w.heap.size w W := by rw [← hW]; exact (Below.refl _ _).alloc (Nat.le_refl _) _
  have q0 : W.heap[w.heap.size]? = some (.cells #[.int .i64 0, .string ⟨#[]⟩, .int .i64 0] 38) := by rw [← hW]; exact heap_alloc_new _ _
  have hlt := (Array.getElem?_eq_some_iff.1 q0).1
  have hgW := sgn_below hg hB
  have HW := Lib.hid hW
  clear hf hfl hown hW
  by_cases h0 : kd = 0
  · rw [if_pos h0] at hr
    have HR := Lib.hid hr
    have h0' : ((kd : Int) == 0) = true := by simp [h0]
    clear hr h0
    go_enter Tryd.func22, Tryd.ntmps22
    go_upto_region 1 with fail
    rw [HW.out]
    go_wp2_with (first
      | (go_at_call 32; (with_reducible refine (HC.out _ hgW).mono ?_); go_must (
          rintro e w2 ⟨rfl, hb2⟩
          have q2 := (hb2.block _ hlt).trans q0
          obtain ⟨c0, c1, c2, z0, z1, z2⟩ := cells_tk q2))
      | fail)
    obtain ⟨p0, p1, p2, _⟩ := cells_tk (set3_tk (u := .int .i64 0) (v := .string ⟨#[]⟩) (v' := .int .i64 0) q2)
    refine bodyPost_ret (v := .tuple #[.agg #[.int .i64 0, .string ⟨#[]⟩, .int .i64 0], .int .i64 220]) (by simp [results, Tryd.results22, go_sem, p0, p1, p2]) rfl ⟨by rw [HR.out]; rfl, bl_set3 (hB.trans (hb2.mono hB.size)) (Nat.le_refl _)⟩
  · rw [if_neg h0] at hr
    have h0' : ((kd : Int) == 0) = false := by simp [h0]
    by_cases h6 : kd = 6
    · have h6' : ((kd : Int) != 6) = false := by simp [h6]
      rw [if_neg (by simp [h6])] at hr
      have HR := Lib.hid hr
      have hos : own.size ≤ 281474976710656 := by omega
      clear hr h0 h6
      go_enter Tryd.func22, Tryd.ntmps22
      go_upto_region 1 with fail
      rw [HW.out]
      go_wp2_with (first
        | (go_at_call 32; (with_reducible refine (HC.out _ hgW).mono ?_); go_must (
            rintro e w2 ⟨rfl, hb2⟩
            have q2 := (hb2.block _ hlt).trans q0
            have hl2 := (Array.getElem?_eq_some_iff.1 q2).1))
        | (go_at_call 25; (with_reducible refine (sclone_any own _ hos).mono ?_); go_must (
            rintro e w3 ⟨rfl, hb3⟩
            have q3 := (hb3.block _ hl2).trans q2
            obtain ⟨c0, c1, c2, z0, z1, z2⟩ := cells_tk q3))
        | fail)
      obtain ⟨p0, p1, p2, _⟩ := cells_tk (set3_tk (u := .int .i64 (kd : Int)) (v := .string own) (v' := .int .i64 (k : Int)) q3)
      have hB2 := hB.trans (hb2.mono hB.size)
      refine bodyPost_ret (v := .tuple #[.agg #[.int .i64 (kd : Int), .string own, .int .i64 (k : Int)], .int .i64 0]) (by simp [results, Tryd.results22, go_sem, p0, p1, p2]) rfl ⟨by rw [HR.out]; rfl, bl_set3 (hB2.trans (hb3.mono hB2.size)) (Nat.le_refl _)⟩
    · have h6' : ((kd : Int) != 6) = true := by simp; omega
      by_cases h40 : 40 < own.size
      · rw [if_pos ⟨h6, by omega⟩] at hr
        have HR := Lib.hid hr
        clear hr h0 h6
        go_enter Tryd.func22, Tryd.ntmps22
        go_upto_region 1 with fail
        rw [HW.out]
        go_wp2_with (first
          | (go_at_call 32; (with_reducible refine (HC.out _ hgW).mono ?_); go_must (
              rintro e w2 ⟨rfl, hb2⟩
              have q2 := (hb2.block _ hlt).trans q0
              obtain ⟨c0, c1, c2, z0, z1, z2⟩ := cells_tk q2))
          | fail)
        obtain ⟨p0, p1, p2, _⟩ := cells_tk (set3_tk (u := .int .i64 0) (v := .string ⟨#[]⟩) (v' := .int .i64 0) q2)
        refine bodyPost_ret (v := .tuple #[.agg #[.int .i64 0, .string ⟨#[]⟩, .int .i64 0], .int .i64 3]) (by simp [results, Tryd.results22, go_sem, p0, p1, p2]) rfl ⟨by rw [HR.out]; rfl, bl_set3 (hB.trans (hb2.mono hB.size)) (Nat.le_refl _)⟩
      · rw [if_neg (by omega)] at hr
        have HR := Lib.hid hr
        have hos : own.size ≤ 281474976710656 := by omega
        clear hr h0 h6
        go_enter Tryd.func22, Tryd.ntmps22
        go_upto_region 1 with fail
        rw [HW.out]
        go_wp2_with (first
          | (go_at_call 32; (with_reducible refine (HC.out _ hgW).mono ?_); go_must (
              rintro e w2 ⟨rfl, hb2⟩
              have q2 := (hb2.block _ hlt).trans q0
              have hl2 := (Array.getElem?_eq_some_iff.1 q2).1))
          | (go_at_call 25; (with_reducible refine (sclone_any own _ hos).mono ?_); go_must (
              rintro e w3 ⟨rfl, hb3⟩
              have q3 := (hb3.block _ hl2).trans q2
              obtain ⟨c0, c1, c2, z0, z1, z2⟩ := cells_tk q3))
          | fail)
        obtain ⟨p0, p1, p2, _⟩ := cells_tk (set3_tk (u := .int .i64 (kd : Int)) (v := .string own) (v' := .int .i64 (k : Int)) q3)
        have hB2 := hB.trans (hb2.mono hB.size)
        refine bodyPost_ret (v := .tuple #[.agg #[.int .i64 (kd : Int), .string own, .int .i64 (k : Int)], .int .i64 0]) (by simp [results, Tryd.results22, go_sem, p0, p1, p2]) rfl ⟨by rw [HR.out]; rfl, bl_set3 (hB2.trans (hb3.mono hB2.size)) (Nat.le_refl _)⟩

set_option maxHeartbeats 1000000 in
theorem tokBehind_any (t : Tk) (w : World) (hz : t.pos + t.txt.size + 2 ≤ 9223372036854775807) : Calls Tryd.prog 20 #[t.v] w fun e w' => e = .returned (.int .i64 (t.behind : Int)) ∧ Below w.heap.size w w' := by
  obtain ⟨kd, tx, p⟩ := t
  simp only at hz
  have hB : Below w.heap.size w (w.alloc (.cells #[.int .i64 (kd : Int), .string tx, .int .i64 (p : Int)] 38)) := (Below.refl _ _).alloc (Nat.le_refl _) _
  by_cases h4 : kd = 4
  · have h4' : ((kd : Int) == 4) = true := by simp [h4]
    have hf : Hid ((Tk.mk kd tx p).behind = p + tx.size + 2) := Lib.hid (by simp [Tk.behind, h4])
    clear h4
    unfold Tk.v
    go_enter Tryd.func20, Tryd.ntmps20
    go_wp2
    go_ret
    exact ⟨by rw [hf.out]; go_num, hB⟩
  · have h4' : ((kd : Int) == 4) = false := by simp; omega
    have hf : Hid ((Tk.mk kd tx p).behind = p + tx.size) := Lib.hid (by simp [Tk.behind, h4])
    clear h4
    unfold Tk.v
    go_enter Tryd.func20, Tryd.ntmps20
    go_wp2
    go_ret
    exact ⟨by rw [hf.out]; go_num, hB⟩

end Go.Proofs.YtkpkhnaflohjpaaDoor

/- Token: the document's own functions on bytes: words, remarks, quotes, signs. -/

namespace Go.Proofs.YtkpkhnaflohjpaaDoor

open Go.RowKit Go.Shelf
set_option maxRecDepth 100000

theorem name_let (c : Int) : nameC c = (letC c || digitC c || (c == 95)) := by
  rw [Bool.eq_iff_iff]; simp [nameC, letC, digitC]; omega

set_option maxHeartbeats 2000000 in
theorem rtWord_any (s : ByteArray) (k : Nat) (w : World) (hk : k ≤ s.size) (hs : s.size ≤ 1099511627776) :
    Calls Tryd.prog 43 #[.string s, .int .i64 (k : Int)] w fun e w' => e = .returned (.int .i64 ((k + runN nameC (s.data.toList.drop k) : Nat) : Int)) ∧ w = w' := by
  go_enter Tryd.func43, Tryd.ntmps43
  go_wp2
  go_loop [1] (fun i => ∃ n : Nat, n ≤ s.size ∧ i = .int .i64 n ∧ Hid (k + runN nameC (s.data.toList.drop k) = n + runN nameC (s.data.toList.drop n))) (fun i => s.size - (intOf i).toNat)
  case atStart => exact ⟨k, hk, rfl, Lib.hid rfl⟩
  case round =>
    obtain ⟨n, hn, rfl, HA⟩ := hrel
    by_cases hlt : n < s.size
    · have hnl := name_let (s[n].toNat : Int)
      cases h1 : letC (s[n].toNat : Int) with
      | true =>
        rw [h1] at hnl
        have HS := Lib.hid (HA.out.trans (by rw [runN_here hlt (hnl.trans rfl)]; omega : _ = n + 1 + runN nameC (s.data.toList.drop (n + 1))))
        clear hnl
        go_wp2_with (first | (go_at_call 48; refine (rtLetter_any _ _).mono ?_; rintro e w' ⟨rfl, rfl⟩; rw [h1]) | fail)
        go_round
        case rel => exact ⟨n + 1, by omega, by go_num, HS⟩
        case measure => simp [intOf]; omega
      | false =>
        cases h2 : digitC (s[n].toNat : Int) with
        | true =>
          rw [h1, h2] at hnl
          have HS := Lib.hid (HA.out.trans (by rw [runN_here hlt (hnl.trans rfl)]; omega : _ = n + 1 + runN nameC (s.data.toList.drop (n + 1))))
          clear hnl
          go_wp2_with (first
            | (go_at_call 48; refine (rtLetter_any _ _).mono ?_; rintro e w' ⟨rfl, rfl⟩; rw [h1])
            | (go_at_call 44; refine (rtDigit_any _ _).mono ?_; rintro e w' ⟨rfl, rfl⟩; rw [h2])
            | fail)
          go_round
          case rel => exact ⟨n + 1, by omega, by go_num, HS⟩
          case measure => simp [intOf]; omega
        | false =>
          cases h3 : ((s[n].toNat : Int) == 95) with
          | true =>
            rw [h1, h2, h3] at hnl
            have HS := Lib.hid (HA.out.trans (by rw [runN_here hlt (hnl.trans rfl)]; omega : _ = n + 1 + runN nameC (s.data.toList.drop (n + 1))))
            clear hnl
            go_wp2_with (first
              | (go_at_call 48; refine (rtLetter_any _ _).mono ?_; rintro e w' ⟨rfl, rfl⟩; rw [h1])
              | (go_at_call 44; refine (rtDigit_any _ _).mono ?_; rintro e w' ⟨rfl, rfl⟩; rw [h2])
              | fail)
            go_round
            case rel => exact ⟨n + 1, by omega, by go_num, HS⟩
            case measure => simp [intOf]; omega
          | false =>
            rw [h1, h2, h3] at hnl
            have HS := Lib.hid (HA.out.trans (by rw [runN_stop hlt (hnl.trans rfl), Nat.add_zero] : _ = n))
            clear hnl
            go_wp2_with (first
              | (go_at_call 48; refine (rtLetter_any _ _).mono ?_; rintro e w' ⟨rfl, rfl⟩; rw [h1])
              | (go_at_call 44; refine (rtDigit_any _ _).mono ?_; rintro e w' ⟨rfl, rfl⟩; rw [h2])
              | fail)
            go_ret
            exact ⟨ret_int (by have := HS.out; omega), rfl⟩
    · obtain rfl : n = s.size := by omega
      have HS := Lib.hid (HA.out.trans (by rw [runN_end (Nat.le_refl _), Nat.add_zero] : _ = s.size))
      go_wp2
      go_ret
      exact ⟨ret_int (by have := HS.out; omega), rfl⟩

/-- How far a remark goes. -/
def remN : List UInt8 → Nat
  | [] => 0
  | c :: l => if c = 37 then runN lineC (c :: l) else if c = 47 ∧ l.head? = some 42 then (match findEnd l.tail with | some j => j + 4 | none => 0) else 0

theorem skip_rem (c : UInt8) (l : List UInt8) : skipN (c :: l) = if blankC (c.toNat : Int) then 1 else remN (c :: l) := rfl

theorem head_drop {s : ByteArray} {k : Nat} (h : k < s.size) : (s.data.toList.drop k).head? = some s[k] := by rw [drop_cons h]; rfl

theorem head_end {s : ByteArray} {k : Nat} (h : s.size ≤ k) : (s.data.toList.drop k).head? = none := by rw [List.drop_eq_nil_of_le (by rw [toList_len]; exact h)]; rfl

theorem findEnd_at {s : ByteArray} {m : Nat} (h : m + 1 < s.size) : findEnd (s.data.toList.drop m) = if s[m] = 42 ∧ s[m + 1] = 47 then some 0 else (findEnd (s.data.toList.drop (m + 1))).map (· + 1) := by
  rw [drop_cons (by omega), findEnd, head_drop h]
  simp

theorem findEnd_none {s : ByteArray} {m : Nat} (h : s.size ≤ m + 1) : findEnd (s.data.toList.drop m) = none := by
  by_cases h1 : m < s.size
  · rw [drop_cons h1, findEnd, head_end h, if_neg (by simp), List.drop_eq_nil_of_le (by rw [toList_len]; omega)]; rfl
  · rw [List.drop_eq_nil_of_le (by rw [toList_len]; omega)]; rfl

set_option maxHeartbeats 4000000 in
theorem rtRemark_any (s : ByteArray) (k : Nat) (w : World) (hk : k < s.size) (hs : s.size ≤ 1099511627776) :
    Calls Tryd.prog 34 #[.string s, .int .i64 (k : Int)] w fun e w' => e = .returned (.int .i64 ((k + remN (s.data.toList.drop k) : Nat) : Int)) ∧ w = w' := by
  have hre : remN (s.data.toList.drop k) = if s[k] = 37 then runN lineC (s.data.toList.drop k) else if s[k] = 47 ∧ (s.data.toList.drop (k + 1)).head? = some 42 then (match findEnd (s.data.toList.drop (k + 2)) with | some j => j + 4 | none => 0) else 0 := by
    rw [drop_cons hk, remN, List.tail_drop]
  have h37 : ((s[k].toNat : Int) == 37) = decide (s[k] = 37) := u8_eq (k := 37) (by omega)
  by_cases h3 : s[k] = 37
  · rw [decide_eq_true h3] at h37
    rw [if_pos h3] at hre
    have Hre := Lib.hid hre
    clear h3 hre
    go_enter Tryd.func34, Tryd.ntmps34
    go_wp2
    go_loop [1] (fun i => ∃ n : Nat, n ≤ s.size ∧ i = .int .i64 n ∧ Hid (k + runN lineC (s.data.toList.drop k) = n + runN lineC (s.data.toList.drop n))) (fun i => s.size - (intOf i).toNat)
    case atStart => exact ⟨k, by omega, rfl, Lib.hid rfl⟩
    case round =>
      obtain ⟨n, hn, rfl, HA⟩ := hrel
      by_cases hlt : n < s.size
      · cases h1 : lineC (s[n].toNat : Int) with
        | true =>
          have HS := Lib.hid (HA.out.trans (by rw [runN_here hlt h1]; omega : _ = n + 1 + runN lineC (s.data.toList.drop (n + 1))))
          have h10 : ((s[n].toNat : Int) != 10) = true := by simp only [lineC, decide_eq_true_eq] at h1; simpa using h1
          clear h1
          go_wp2
          go_round
          case rel => exact ⟨n + 1, by omega, by go_num, HS⟩
          case measure => simp [intOf]; omega
        | false =>
          have HS := Lib.hid (HA.out.trans (by rw [runN_stop hlt h1, Nat.add_zero] : _ = n))
          have h10 : ((s[n].toNat : Int) != 10) = false := by simp only [lineC, decide_eq_false_iff_not] at h1; simpa using h1
          clear h1
          go_wp2
          go_ret
          exact ⟨ret_int (by have h1 := HS.out; have h2 := Hre.out; omega), rfl⟩
      · obtain rfl : n = s.size := by omega
        have HS := Lib.hid (HA.out.trans (by rw [runN_end (Nat.le_refl _), Nat.add_zero] : _ = s.size))
        go_wp2
        go_ret
        exact ⟨ret_int (by have h1 := HS.out; have h2 := Hre.out; omega), rfl⟩
  · rw [decide_eq_false h3] at h37
    rw [if_neg h3] at hre
    by_cases h2 : k + 1 < s.size
    · have h47 : ((s[k].toNat : Int) != 47) = !decide (s[k] = 47) := by
        have : ((s[k].toNat : Int) == 47) = decide (s[k] = 47) := u8_eq (k := 47) (by omega)
        rw [bne, this]
      have h42 : ((s[k + 1].toNat : Int) != 42) = !decide (s[k + 1] = 42) := by
        have : ((s[k + 1].toNat : Int) == 42) = decide (s[k + 1] = 42) := u8_eq (k := 42) (by omega)
        rw [bne, this]
      rw [head_drop h2] at hre
      by_cases h4 : s[k] = 47
      · by_cases h5 : s[k + 1] = 42
        · rw [if_pos ⟨h4, by rw [h5]⟩] at hre
          rw [decide_eq_true h4] at h47
          rw [decide_eq_true h5] at h42
          have Hre := Lib.hid hre
          have h47' : ((s[k].toNat : Int) != 47) = false := h47
          have h42' : ((s[k + 1].toNat : Int) != 42) = false := h42
          clear h3 h4 h5 hre h47 h42
          go_enter Tryd.func34, Tryd.ntmps34
          go_wp2
          go_loop [5] (fun i => ∃ m : Nat, k + 2 ≤ m ∧ m ≤ s.size ∧ i = .int .i64 m ∧ Hid (findEnd (s.data.toList.drop (k + 2)) = (findEnd (s.data.toList.drop m)).map (· + (m - (k + 2))))) (fun i => s.size - (intOf i).toNat)
          case atStart => exact ⟨k + 2, Nat.le_refl _, by omega, by go_num, Lib.hid (by simp)⟩
          case round =>
            obtain ⟨m, hm1, hm2, rfl, HB⟩ := hrel
            by_cases hlt : m + 1 < s.size
            · have hfe := findEnd_at hlt
              have g42 : ((s[m].toNat : Int) == 42) = decide (s[m] = 42) := u8_eq (k := 42) (by omega)
              have g47 : ((s[m + 1].toNat : Int) == 47) = decide (s[m + 1] = 47) := u8_eq (k := 47) (by omega)
              by_cases h6 : s[m] = 42
              · rw [decide_eq_true h6] at g42
                by_cases h7 : s[m + 1] = 47
                · rw [decide_eq_true h7] at g47
                  rw [if_pos ⟨h6, h7⟩] at hfe
                  have HS : Hid (k + remN (s.data.toList.drop k) = m + 2) := Lib.hid (by
                    rw [Hre.out, HB.out, hfe]
                    simp only [Option.map_some]
                    omega)
                  clear h6 h7 hfe
                  go_wp2
                  go_ret
                  exact ⟨ret_int (by have := HS.out; omega), rfl⟩
                · rw [decide_eq_false h7] at g47
                  rw [if_neg (fun h => h7 h.2)] at hfe
                  have HS : Hid (findEnd (s.data.toList.drop (k + 2)) = (findEnd (s.data.toList.drop (m + 1))).map (· + (m + 1 - (k + 2)))) := Lib.hid (by
                    rw [HB.out, hfe, Option.map_map]
                    congr 1
                    funext x
                    simp only [Function.comp]
                    omega)
                  clear h6 h7 hfe
                  go_wp2
                  go_round
                  case rel => exact ⟨m + 1, by omega, by omega, by go_num, HS⟩
                  case measure => simp [intOf]; omega
              · rw [decide_eq_false h6] at g42
                rw [if_neg (fun h => h6 h.1)] at hfe
                have HS : Hid (findEnd (s.data.toList.drop (k + 2)) = (findEnd (s.data.toList.drop (m + 1))).map (· + (m + 1 - (k + 2)))) := Lib.hid (by
                  rw [HB.out, hfe, Option.map_map]
                  congr 1
                  funext x
                  simp only [Function.comp]
                  omega)
                clear h6 hfe g47
                go_wp2
                go_round
                case rel => exact ⟨m + 1, by omega, by omega, by go_num, HS⟩
                case measure => simp [intOf]; omega
            · have HS : Hid (k + remN (s.data.toList.drop k) = k) := Lib.hid (by rw [Hre.out, HB.out, findEnd_none (by omega)]; rfl)
              go_wp2
              go_ret
              exact ⟨ret_int (by have := HS.out; omega), rfl⟩
        · rw [if_neg (fun h => h5 (by simpa using h.2))] at hre
          rw [decide_eq_true h4] at h47
          rw [decide_eq_false h5] at h42
          have h47' : ((s[k].toNat : Int) != 47) = false := h47
          have h42' : ((s[k + 1].toNat : Int) != 42) = true := h42
          have Hre := Lib.hid hre
          clear h3 h4 h5 hre h47 h42
          go_enter Tryd.func34, Tryd.ntmps34
          go_wp2
          go_ret
          exact ⟨ret_int (by have := Hre.out; omega), rfl⟩
      · rw [if_neg (fun h => h4 h.1)] at hre
        rw [decide_eq_false h4] at h47
        have h47' : ((s[k].toNat : Int) != 47) = true := h47
        have Hre := Lib.hid hre
        clear h3 h4 hre h47 h42
        go_enter Tryd.func34, Tryd.ntmps34
        go_wp2
        go_ret
        exact ⟨ret_int (by have := Hre.out; omega), rfl⟩
    · rw [head_end (by omega), if_neg (by simp)] at hre
      have Hre := Lib.hid hre
      clear h3 hre
      go_enter Tryd.func34, Tryd.ntmps34
      go_wp2
      go_ret
      exact ⟨ret_int (by have := Hre.out; omega), rfl⟩

end Go.Proofs.YtkpkhnaflohjpaaDoor

/- Token: the document's own quotes, signs and tokens. -/

namespace Go.Proofs.YtkpkhnaflohjpaaDoor

open Go.RowKit Go.Shelf
set_option maxRecDepth 100000

/-- How long a quoted token is, behind its first quote: 0: none. -/
def quoN (l : List UInt8) : Nat := if runN quotC l = 0 then 0 else if (l.drop (runN quotC l)).head? = some 39 then runN quotC l + 2 else 0

theorem quotedT_eq (l : List UInt8) : quotedT l = if quoN l = 0 then (0, 0, 0) else (4, 1, quoN l - 1) := by
  unfold quotedT quoN
  by_cases h : runN quotC l = 0
  · rw [if_pos h, if_pos h, if_pos rfl]
  · rw [if_neg h, if_neg h]
    by_cases h2 : (l.drop (runN quotC l)).head? = some 39
    · rw [if_pos h2, if_pos h2, if_neg (by omega)]
      rw [show runN quotC l + 2 - 1 = 1 + runN quotC l by omega]
    · rw [if_neg h2, if_neg h2, if_pos rfl]

set_option maxHeartbeats 4000000 in
theorem rtQuoted_any (s : ByteArray) (k : Nat) (w : World) (hk : k < s.size) (hs : s.size ≤ 1099511627776) :
    Calls Tryd.prog 45 #[.string s, .int .i64 (k : Int)] w fun e w' => e = .returned (.int .i64 ((k + quoN (s.data.toList.drop (k + 1)) : Nat) : Int)) ∧ w = w' := by
  go_enter Tryd.func45, Tryd.ntmps45
  go_wp2
  go_loop [5] (fun i => ∃ m : Nat, k + 1 ≤ m ∧ m ≤ s.size ∧ i = .int .i64 m ∧ Hid (runN quotC (s.data.toList.drop (k + 1)) = runN quotC (s.data.toList.drop m) + (m - (k + 1)))) (fun i => s.size - (intOf i).toNat)
  case atStart => exact ⟨k + 1, Nat.le_refl _, by omega, by go_num, Lib.hid (by simp)⟩
  case round =>
    obtain ⟨m, hm1, hm2, rfl, HA⟩ := hrel
    by_cases hlt : m < s.size
    · have e39 : ((s[m].toNat : Int) == 39) = decide (s[m] = 39) := u8_eq (k := 39) (by omega)
      have hhd := head_drop hlt
      by_cases h9 : s[m] = 39
      · rw [decide_eq_true h9] at e39
        have hz := runN_stop (p := quotC) hlt (by rw [h9]; decide)
        have hn : runN quotC (s.data.toList.drop (k + 1)) = m - (k + 1) := by rw [HA.out, hz, Nat.zero_add]
        by_cases hm : m = k + 1
        · have he : ((m : Int) == (k : Int) + 1) = true := by rw [beq_iff_eq]; omega
          have HQ : Hid (quoN (s.data.toList.drop (k + 1)) = 0) := Lib.hid (by unfold quoN; rw [if_pos (by omega)])
          clear hm hn hz h9 hhd
          go_wp2
          go_ret
          exact ⟨ret_int (by have := HQ.out; omega), rfl⟩
        · have he : ((m : Int) == (k : Int) + 1) = false := by rw [beq_eq_false_iff_ne]; omega
          have HQ : Hid (quoN (s.data.toList.drop (k + 1)) = m + 1 - k) := Lib.hid (by
            unfold quoN
            rw [if_neg (by omega), hn, List.drop_drop, show k + 1 + (m - (k + 1)) = m by omega, hhd, if_pos (by rw [h9])]
            omega)
          clear hm hn hz h9 hhd
          go_wp2
          go_ret
          exact ⟨ret_int (by have := HQ.out; omega), rfl⟩
      · rw [decide_eq_false h9] at e39
        have c39 : (s[m].toNat : Int) ≠ 39 := by intro e; rw [e] at e39; simp at e39
        cases hq : quotC (s[m].toNat : Int) with
        | true =>
          have HS : Hid (runN quotC (s.data.toList.drop (k + 1)) = runN quotC (s.data.toList.drop (m + 1)) + (m + 1 - (k + 1))) := Lib.hid (by rw [HA.out, runN_here hlt hq]; omega)
          simp only [quotC, decide_eq_true_eq] at hq
          have d32 : decide ((s[m].toNat : Int) < 32) = false := decide_eq_false (by omega)
          have d126 : decide ((126 : Int) < (s[m].toNat : Int)) = false := decide_eq_false (by omega)
          have e92 : ((s[m].toNat : Int) == 92) = false := by rw [beq_eq_false_iff_ne]; exact hq.2.2.2
          clear hq h9 hhd c39
          go_wp2
          go_round
          case rel => exact ⟨m + 1, by omega, by omega, by go_num, HS⟩
          case measure => simp [intOf]; omega
        | false =>
          have hz := runN_stop (p := quotC) hlt hq
          have hn : runN quotC (s.data.toList.drop (k + 1)) = m - (k + 1) := by rw [HA.out, hz, Nat.zero_add]
          have HQ : Hid (quoN (s.data.toList.drop (k + 1)) = 0) := Lib.hid (by
            unfold quoN
            by_cases h0 : runN quotC (s.data.toList.drop (k + 1)) = 0
            · rw [if_pos h0]
            · rw [if_neg h0, hn, List.drop_drop, show k + 1 + (m - (k + 1)) = m by omega, hhd, if_neg (by simpa using h9)])
          simp only [quotC, decide_eq_false_iff_not] at hq
          have hcs : (s[m].toNat : Int) < 32 ∨ ((32 : Int) ≤ (s[m].toNat : Int) ∧ (126 : Int) < (s[m].toNat : Int)) ∨ ((32 : Int) ≤ (s[m].toNat : Int) ∧ (s[m].toNat : Int) ≤ 126 ∧ (s[m].toNat : Int) = 92) := by omega
          clear hq h9 hhd hn hz c39
          rcases hcs with h | ⟨h, h'⟩ | ⟨h, h', h''⟩
          · have d32 : decide ((s[m].toNat : Int) < 32) = true := decide_eq_true h
            clear h
            go_wp2
            go_ret
            exact ⟨ret_int (by have := HQ.out; omega), rfl⟩
          · have d32 : decide ((s[m].toNat : Int) < 32) = false := decide_eq_false (by omega)
            have d126 : decide ((126 : Int) < (s[m].toNat : Int)) = true := decide_eq_true h'
            clear h h'
            go_wp2
            go_ret
            exact ⟨ret_int (by have := HQ.out; omega), rfl⟩
          · have d32 : decide ((s[m].toNat : Int) < 32) = false := decide_eq_false (by omega)
            have d126 : decide ((126 : Int) < (s[m].toNat : Int)) = false := decide_eq_false (by omega)
            have e92 : ((s[m].toNat : Int) == 92) = true := by rw [beq_iff_eq]; exact h''
            clear h h' h''
            go_wp2
            go_ret
            exact ⟨ret_int (by have := HQ.out; omega), rfl⟩
    · obtain rfl : m = s.size := by omega
      have HQ : Hid (quoN (s.data.toList.drop (k + 1)) = 0) := Lib.hid (by
        have hn : runN quotC (s.data.toList.drop (k + 1)) = s.size - (k + 1) := by rw [HA.out, runN_end (Nat.le_refl _), Nat.zero_add]
        unfold quoN
        by_cases h0 : runN quotC (s.data.toList.drop (k + 1)) = 0
        · rw [if_pos h0]
        · rw [if_neg h0, hn, List.drop_drop, show k + 1 + (s.size - (k + 1)) = s.size by omega, head_end (Nat.le_refl _), if_neg (by simp)])
      go_wp2
      go_ret
      exact ⟨ret_int (by have := HQ.out; omega), rfl⟩

set_option maxHeartbeats 4000000 in
theorem rtSign_any (s : ByteArray) (w : World) :
    Calls Tryd.prog 46 #[.string s] w fun e w' => e = .returned (.int .i64 (signN s.data.toList : Int)) ∧ Below w.heap.size w w' := by
  go_enter Tryd.func46, Tryd.ntmps46
  go_wp2
  obtain ⟨W, hW⟩ : ∃ W, w.alloc (.cells signsV 9) = W := ⟨_, rfl⟩
  have hB : Below w.heap.size w W := by rw [← hW]; exact (Below.refl _ _).alloc (Nat.le_refl _) _
  have q0 : W.heap[w.heap.size]? = some (.cells signsV 9) := by rw [← hW]; exact heap_alloc_new _ _
  have hcl : ∀ (k : Nat) (p : List UInt8), signsL[k]? = some p → W.cell? ⟨w.heap.size, k, none⟩ = some (.string ⟨p.toArray⟩) := fun k p hp => by
    simp only [World.cell?, q0]
    simp [signsV, hp]
  have hlen : signsL.length = 20 := rfl
  change Code.wp _ _ _ _ (w.alloc (.cells signsV 9))
  rw [hW]
  clear hW q0
  go_loopw [4] (fun i wr => ∃ k q : Nat, k ≤ 20 ∧ i = .int .i64 k ∧ wr = W.drewN q ∧ Hid (signsL.find? (fun p => p.isPrefixOf s.data.toList) = (signsL.drop k).find? (fun p => p.isPrefixOf s.data.toList))) (fun i _ => 20 - (intOf i).toNat)
  case atStart => exact ⟨0, 0, by omega, rfl, rfl, Lib.hid rfl⟩
  case round =>
    obtain ⟨k, q, hk, rfl, rfl, HA⟩ := hrel
    by_cases hlt : k < 20
    · obtain ⟨p, hp⟩ : ∃ p, signsL[k]? = some p := ⟨_, List.getElem?_eq_getElem hlt⟩
      have hc := hcl k p hp
      have hd : signsL.drop k = p :: signsL.drop (k + 1) := by
        obtain ⟨h1, h2⟩ := List.getElem?_eq_some_iff.1 hp
        rw [List.drop_eq_getElem_cons h1, h2]
      have h1 := HA.out
      rw [hd, List.find?_cons] at h1
      have hz := signs_pos p (List.mem_of_getElem? hp)
      have hpi := hasPre_iff s ⟨p.toArray⟩
      obtain ⟨P, hP⟩ : ∃ P : ByteArray, (⟨p.toArray⟩ : ByteArray) = P := ⟨_, rfl⟩
      have hPl : P.size = p.length := by rw [← hP]; rfl
      rw [show (⟨p.toArray⟩ : ByteArray).data.toList = p from rfl, hP] at hpi
      rw [hP] at hc
      clear hP hd hcl
      by_cases hle : P.size ≤ s.size
      · rw [decide_eq_true hle, Bool.true_and] at hpi
        by_cases hx : s.extract 0 P.size = P
        · rw [decide_eq_true hx] at hpi
          rw [← hpi] at h1
          have HF : Hid (signN s.data.toList = P.size) := Lib.hid (by unfold signN; rw [h1, hPl])
          have hs1 : ((s.extract 0 P.size).toList == P.toList) = true := by rw [hx]; simp
          clear hx hpi h1 hPl hp hz
          go_wp2
          go_quiet (fail)
          go_wp2
          go_ret
          exact ⟨ret_int (by rw [HF.out]), bl_drewN hB _⟩
        · rw [decide_eq_false hx] at hpi
          rw [← hpi] at h1
          have HB := Lib.hid h1
          have hs1 : ((s.extract 0 P.size).toList == P.toList) = false := by
            rw [beq_eq_false_iff_ne]
            intro e
            rw [ByteArray.toList_eq, ByteArray.toList_eq] at e
            exact hx (ByteArray.ext (Array.toList_inj.1 e))
          clear hx hpi h1 hPl hp hz
          go_wp2
          go_quiet (fail)
          go_wp2
          go_roundw
          case rel => exact ⟨k + 1, q + nq, by omega, by go_num, rfl, HB⟩
          case measure => simp [intOf]; omega
      · rw [decide_eq_false hle, Bool.false_and] at hpi
        rw [← hpi] at h1
        have HB := Lib.hid h1
        clear hpi h1 hPl hp hz
        go_wp2
        go_quiet (fail)
        go_wp2
        go_roundw
        case rel => exact ⟨k + 1, q + nq, by omega, by go_num, rfl, HB⟩
        case measure => simp [intOf]; omega
    · obtain rfl : k = 20 := by omega
      have HF : Hid (signN s.data.toList = 0) := Lib.hid (by unfold signN; rw [HA.out]; rfl)
      go_wp2
      go_ret
      exact ⟨ret_int (by rw [HF.out]; rfl), bl_drewN hB _⟩

end Go.Proofs.YtkpkhnaflohjpaaDoor

/- Token: the document's own token at a place. -/

namespace Go.Proofs.YtkpkhnaflohjpaaDoor

open Go.RowKit Go.Shelf
set_option maxRecDepth 100000

/-- What one answers: where a token ends, and the token. -/
def OnePost (s : ByteArray) (k : Nat) (w : World) (e : Ending) (w' : World) : Prop := ∃ (t : Tk) (E : Nat), e = .returned (.tuple #[t.v, .int .i64 (E : Int)]) ∧ ((firstT (s.data.toList.drop k)).1 = 0 → E = k) ∧
  ((firstT (s.data.toList.drop k)).1 ≠ 0 → t = ⟨(firstT (s.data.toList.drop k)).1, s.extract (k + (firstT (s.data.toList.drop k)).2.1) (k + (firstT (s.data.toList.drop k)).2.2), k⟩ ∧ E = t.behind ∧ k < E) ∧ Below w.heap.size w w'

theorem onePost_of {s : ByteArray} {k : Nat} {w w' : World} {e : Ending} {kd a b : Nat} {t : Tk} {E : Nat} (hf : firstT (s.data.toList.drop k) = (kd, a, b)) (he : e = .returned (.tuple #[t.v, .int .i64 (E : Int)])) (h0 : kd = 0 → E = k) (h1 : kd ≠ 0 → t = ⟨kd, s.extract (k + a) (k + b), k⟩ ∧ E = t.behind ∧ k < E) (hb : Below w.heap.size w w') : OnePost s k w e w' :=
  ⟨t, E, he, by rw [hf]; exact h0, by rw [hf]; exact h1, hb⟩

theorem one_fin {s : ByteArray} {k r kd : Nat} (h4 : kd ≠ 4) (hr : k + r ≤ s.size) (hp : 0 < r) : kd ≠ 0 → (⟨kd, s.extract k (k + r), k⟩ : Tk) = ⟨kd, s.extract (k + 0) (k + r), k⟩ ∧ k + r = (⟨kd, s.extract k (k + r), k⟩ : Tk).behind ∧ k < k + r := fun _ => by
  refine ⟨rfl, ?_, by omega⟩
  simp only [Tk.behind, if_neg h4]
  rw [size_ext _ _ _ hr]
  omega

theorem u8_lt (c : UInt8) : 0 ≤ (c.toNat : Int) ∧ (c.toNat : Int) ≤ 255 := by have := c.toNat_lt; omega

set_option maxHeartbeats 8000000 in
theorem rtOne_any (s : ByteArray) (k : Nat) (w : World) (hk : k < s.size) (hs : s.size ≤ 1099511627776) : Calls Tryd.prog 35 #[.string s, .int .i64 (k : Int)] w (OnePost s k w) := by
  have hfl := firstT_le (s.data.toList.drop k)
  rw [List.length_drop, toList_len] at hfl
  have hfc := firstT_cons s[k] (s.data.toList.drop (k + 1))
  rw [← drop_cons hk] at hfc
  obtain ⟨W, hW⟩ : ∃ W, w.alloc (.cells #[.int .i64 0, .string ⟨#[]⟩, .int .i64 0] 38) = W := ⟨_, rfl⟩
  have hB : Below w.heap.size w W := by rw [← hW]; exact (Below.refl _ _).alloc (Nat.le_refl _) _
  have q0 : W.heap[w.heap.size]? = some (.cells #[.int .i64 0, .string ⟨#[]⟩, .int .i64 0] 38) := by rw [← hW]; exact heap_alloc_new _ _
  have hlt := (Array.getElem?_eq_some_iff.1 q0).1
  obtain ⟨c0, c1, c2, z0, z1, z2⟩ := cells_tk q0
  have HW := Lib.hid hW
  have hc255 := u8_lt s[k]
  have hwd := runN_le nameC (s.data.toList.drop k)
  have hdg := runN_le digitC (s.data.toList.drop k)
  rw [List.length_drop, toList_len] at hwd hdg
  have e36 : ((s[k].toNat : Int) == 36) = decide (s[k] = 36) := u8_eq (k := 36) (by omega)
  have e39 : ((s[k].toNat : Int) == 39) = decide (s[k] = 39) := u8_eq (k := 39) (by omega)
  have g36 : s[k] = 36 ↔ (s[k].toNat : Int) = 36 := by
    rw [← decide_eq_true_iff (p := s[k] = 36), ← e36, beq_iff_eq]
  have g39 : s[k] = 39 ↔ (s[k].toNat : Int) = 39 := by
    rw [← decide_eq_true_iff (p := s[k] = 39), ← e39, beq_iff_eq]
  clear hW
  rcases (show (97 ≤ (s[k].toNat : Int) ∧ (s[k].toNat : Int) ≤ 122) ∨ (65 ≤ (s[k].toNat : Int) ∧ (s[k].toNat : Int) ≤ 90) ∨ (s[k].toNat : Int) = 36 ∨ (48 ≤ (s[k].toNat : Int) ∧ (s[k].toNat : Int) ≤ 57) ∨ (s[k].toNat : Int) = 39 ∨
    (((s[k].toNat : Int) < 65 ∧ (s[k].toNat : Int) ≠ 36 ∧ (s[k].toNat : Int) ≠ 39 ∧ ((s[k].toNat : Int) < 48 ∨ 57 < (s[k].toNat : Int))) ∨ (91 ≤ (s[k].toNat : Int) ∧ (s[k].toNat : Int) ≤ 96) ∨ 122 < (s[k].toNat : Int)) by omega) with h | h | h | h | h | h
  · -- kind 1
    have hsm : smallC (s[k].toNat : Int) = true := decide_eq_true (by omega)
    rw [if_pos hsm] at hfc
    have d97 : decide ((97 : Int) ≤ (s[k].toNat : Int)) = true := decide_eq_true (by omega)
    have d122 : decide ((s[k].toNat : Int) ≤ 122) = true := decide_eq_true (by omega)
    have HC := Lib.hid (fun w => rtWord_any s k w (by omega) hs)
    obtain ⟨r, hr⟩ : ∃ r, runN nameC (s.data.toList.drop k) = r := ⟨_, rfl⟩
    rw [hr] at hfc hwd HC
    have hpos : 0 < r := by have := hfl.2.2.2.2.2.1; rw [hfc] at this; simpa using this
    have HF := Lib.hid hfc
    clear hr hdg hsm
    clear hfc hfl h e36 e39 g36 g39 hc255
    go_enter Tryd.func35, Tryd.ntmps35
    go_upto_region 1 with fail
    rw [HW.out]
    go_wp2_with (first
      | (go_at_call 43; (with_reducible refine (HC.out _).mono ?_); go_must (rintro e w2 ⟨rfl, rfl⟩))
      | fail)
    obtain ⟨p0, p1, p2, _⟩ := cells_tk (set3_tk (u := .int .i64 1) (v := .string (s.extract k (k + r))) (v' := .int .i64 (k : Int)) q0)
    exact bodyPost_ret (v := .tuple #[.agg #[.int .i64 1, .string (s.extract k (k + r)), .int .i64 (k : Int)], .int .i64 ((k + r : Nat) : Int)]) (by simp [results, Tryd.results35, go_sem, p0, p1, p2]) rfl (onePost_of (t := ⟨1, (s.extract k (k + r)), k⟩) (E := k + r) HF.out rfl (fun h => by cases h) (one_fin (by decide) (by omega) hpos) (bl_set3 hB (Nat.le_refl _)))
  · -- kind 2
    have hsm : smallC (s[k].toNat : Int) = false := decide_eq_false (by omega)
    have hgr : greatC (s[k].toNat : Int) = true := decide_eq_true (by omega)
    rw [if_neg (by rw [hsm]; simp), if_pos hgr] at hfc
    have d97 : decide ((97 : Int) ≤ (s[k].toNat : Int)) = false := decide_eq_false (by omega)
    have d65 : decide ((65 : Int) ≤ (s[k].toNat : Int)) = true := decide_eq_true (by omega)
    have d90 : decide ((s[k].toNat : Int) ≤ 90) = true := decide_eq_true (by omega)
    have HC := Lib.hid (fun w => rtWord_any s k w (by omega) hs)
    obtain ⟨r, hr⟩ : ∃ r, runN nameC (s.data.toList.drop k) = r := ⟨_, rfl⟩
    rw [hr] at hfc hwd HC
    have hpos : 0 < r := by have := hfl.2.2.2.2.2.1; rw [hfc] at this; simpa using this
    have HF := Lib.hid hfc
    clear hr hdg hsm
    clear hfc hfl h e36 e39 g36 g39 hc255
    go_enter Tryd.func35, Tryd.ntmps35
    go_upto_region 1 with fail
    rw [HW.out]
    go_wp2_with (first
      | (go_at_call 43; (with_reducible refine (HC.out _).mono ?_); go_must (rintro e w2 ⟨rfl, rfl⟩))
      | fail)
    obtain ⟨p0, p1, p2, _⟩ := cells_tk (set3_tk (u := .int .i64 2) (v := .string (s.extract k (k + r))) (v' := .int .i64 (k : Int)) q0)
    exact bodyPost_ret (v := .tuple #[.agg #[.int .i64 2, .string (s.extract k (k + r)), .int .i64 (k : Int)], .int .i64 ((k + r : Nat) : Int)]) (by simp [results, Tryd.results35, go_sem, p0, p1, p2]) rfl (onePost_of (t := ⟨2, (s.extract k (k + r)), k⟩) (E := k + r) HF.out rfl (fun h => by cases h) (one_fin (by decide) (by omega) hpos) (bl_set3 hB (Nat.le_refl _)))
  · -- a dollar
    have hsm : smallC (s[k].toNat : Int) = false := decide_eq_false (by omega)
    have hgr : greatC (s[k].toNat : Int) = false := decide_eq_false (by omega)
    have hdf : digitC (s[k].toNat : Int) = false := decide_eq_false (by omega)
    rw [if_neg (by rw [hsm]; simp), if_neg (by rw [hgr]; simp), if_neg (by rw [hdf]; simp), if_pos (g36.2 h)] at hfc
    have d97 : decide ((97 : Int) ≤ (s[k].toNat : Int)) = false := decide_eq_false (by omega)
    have d65 : decide ((65 : Int) ≤ (s[k].toNat : Int)) = false := decide_eq_false (by omega)
    have f36 : ((s[k].toNat : Int) == 36) = true := by rw [beq_iff_eq]; omega
    clear hsm hgr hdf
    by_cases h2 : k + 1 < s.size
    · have hdc : s.data.toList.drop (k + 1) = s[k + 1] :: s.data.toList.drop (k + 2) := drop_cons h2
      cases hs2 : smallC ((s[k + 1]'h2).toNat : Int) with
      | true =>
        have hd0 : dollarT (s.data.toList.drop (k + 1)) = (3, 0, 1 + runN nameC (s.data.toList.drop (k + 1))) := by
          unfold dollarT
          rw [hdc]
          simp only [hs2, if_true]
        have HC := Lib.hid (fun w => rtWord_any s (k + 1) w (by omega) hs)
        have hrl := runN_le nameC (s.data.toList.drop (k + 1))
        rw [List.length_drop, toList_len] at hrl
        obtain ⟨r, hr⟩ : ∃ r, runN nameC (s.data.toList.drop (k + 1)) = r := ⟨_, rfl⟩
        rw [hr] at hd0 HC hrl
        have HF := Lib.hid (hfc.trans hd0)
        have hs3 := of_decide_eq_true hs2
        have d1 : decide ((97 : Int) ≤ ((s[k + 1]'h2).toNat : Int)) = true := decide_eq_true hs3.1
        have d2 : decide (((s[k + 1]'h2).toNat : Int) ≤ 122) = true := decide_eq_true hs3.2
        have HC' : Hid (∀ w : World, Calls Tryd.prog 43 #[.string s, .int .i64 ((k : Int) + 1)] w fun e w' => e = .returned (.int .i64 ((k + 1 + r : Nat) : Int)) ∧ w = w') := Lib.hid fun w => HC.out w
        clear hr hdc hs2 hs3 hd0 HC hfc hfl h e36 e39 g36 g39 hc255 hwd hdg
        go_enter Tryd.func35, Tryd.ntmps35
        go_upto_region 1 with fail
        rw [HW.out]
        go_wp2_with (first
          | (go_at_call 43; (with_reducible refine (HC'.out _).mono ?_); go_must (rintro e w2 ⟨rfl, rfl⟩))
          | fail)
        obtain ⟨p0, p1, p2, _⟩ := cells_tk (set3_tk (u := .int .i64 3) (v := .string (s.extract k (k + 1 + r))) (v' := .int .i64 (k : Int)) q0)
        exact bodyPost_ret (v := .tuple #[.agg #[.int .i64 3, .string (s.extract k (k + 1 + r)), .int .i64 (k : Int)], .int .i64 ((k + (1 + r) : Nat) : Int)]) (by simp [results, Tryd.results35, go_sem, p0, p1, p2]; omega) rfl (onePost_of (t := ⟨3, (s.extract k (k + (1 + r))), k⟩) (E := k + (1 + r)) HF.out (by rw [Nat.add_assoc]; rfl) (fun h => by cases h) (one_fin (by decide) (by omega) (by omega)) (bl_set3 hB (Nat.le_refl _)))
      | false =>
        have hd0 : dollarT (s.data.toList.drop (k + 1)) = (0, 0, 0) := by
          unfold dollarT
          rw [hdc]
          simp [hs2]
        have hs3 := of_decide_eq_false hs2
        have HF := Lib.hid (hfc.trans hd0)
        rcases (show ((s[k + 1]'h2).toNat : Int) < 97 ∨ ((97 : Int) ≤ ((s[k + 1]'h2).toNat : Int) ∧ (122 : Int) < ((s[k + 1]'h2).toNat : Int)) by omega) with hx | ⟨hx, hx'⟩
        · have d1 : decide ((97 : Int) ≤ ((s[k + 1]'h2).toNat : Int)) = false := decide_eq_false (by omega)
          clear hdc hs2 hs3 hd0 hfc hfl h e36 e39 g36 g39 hc255 hwd hdg hx
          go_enter Tryd.func35, Tryd.ntmps35
          go_upto_region 1 with fail
          rw [HW.out]
          go_wp2
          obtain ⟨p0, p1, p2, _⟩ := cells_tk (set3_tk (u := .int .i64 3) (v := .string ByteArray.empty) (v' := .int .i64 (k : Int)) q0)
          exact bodyPost_ret (v := .tuple #[.agg #[.int .i64 3, .string ByteArray.empty, .int .i64 (k : Int)], .int .i64 ((k : Nat) : Int)]) (by simp [results, Tryd.results35, go_sem, p0, p1, p2]) rfl (onePost_of (t := ⟨3, ByteArray.empty, k⟩) (E := k) HF.out rfl (fun _ => rfl) (fun h => absurd rfl h) (bl_set3 hB (Nat.le_refl _)))
        · have d1 : decide ((97 : Int) ≤ ((s[k + 1]'h2).toNat : Int)) = true := decide_eq_true (by omega)
          have d2 : decide (((s[k + 1]'h2).toNat : Int) ≤ 122) = false := decide_eq_false (by omega)
          clear hdc hs2 hs3 hd0 hfc hfl h e36 e39 g36 g39 hc255 hwd hdg hx hx'
          go_enter Tryd.func35, Tryd.ntmps35
          go_upto_region 1 with fail
          rw [HW.out]
          go_wp2
          obtain ⟨p0, p1, p2, _⟩ := cells_tk (set3_tk (u := .int .i64 3) (v := .string ByteArray.empty) (v' := .int .i64 (k : Int)) q0)
          exact bodyPost_ret (v := .tuple #[.agg #[.int .i64 3, .string ByteArray.empty, .int .i64 (k : Int)], .int .i64 ((k : Nat) : Int)]) (by simp [results, Tryd.results35, go_sem, p0, p1, p2]) rfl (onePost_of (t := ⟨3, ByteArray.empty, k⟩) (E := k) HF.out rfl (fun _ => rfl) (fun h => absurd rfl h) (bl_set3 hB (Nat.le_refl _)))
    · have hd0 : dollarT (s.data.toList.drop (k + 1)) = (0, 0, 0) := by
        unfold dollarT
        rw [List.drop_eq_nil_of_le (by rw [toList_len]; omega)]
        simp
      have HF := Lib.hid (hfc.trans hd0)
      clear hd0 hfc hfl h e36 e39 g36 g39 hc255 hwd hdg
      go_enter Tryd.func35, Tryd.ntmps35
      go_upto_region 1 with fail
      rw [HW.out]
      go_wp2
      obtain ⟨p0, p1, p2, _⟩ := cells_tk (set3_tk (u := .int .i64 3) (v := .string ByteArray.empty) (v' := .int .i64 (k : Int)) q0)
      exact bodyPost_ret (v := .tuple #[.agg #[.int .i64 3, .string ByteArray.empty, .int .i64 (k : Int)], .int .i64 ((k : Nat) : Int)]) (by simp [results, Tryd.results35, go_sem, p0, p1, p2]) rfl (onePost_of (t := ⟨3, ByteArray.empty, k⟩) (E := k) HF.out rfl (fun _ => rfl) (fun h => absurd rfl h) (bl_set3 hB (Nat.le_refl _)))
  · -- a digit
    have hsm : smallC (s[k].toNat : Int) = false := decide_eq_false (by omega)
    have hgr : greatC (s[k].toNat : Int) = false := decide_eq_false (by omega)
    have hdf : digitC (s[k].toNat : Int) = true := decide_eq_true (by omega)
    rw [if_neg (by rw [hsm]; simp), if_neg (by rw [hgr]; simp), if_pos hdf] at hfc
    have d97 : decide ((97 : Int) ≤ (s[k].toNat : Int)) = false := decide_eq_false (by omega)
    have d65 : decide ((65 : Int) ≤ (s[k].toNat : Int)) = false := decide_eq_false (by omega)
    have f36 : ((s[k].toNat : Int) == 36) = false := by rw [beq_eq_false_iff_ne]; omega
    have Hdg : Hid (digitC (s[k].toNat : Int) = true) := Lib.hid (decide_eq_true (by omega))
    have hpos : 0 < runN digitC (s.data.toList.drop k) := by have := hfl.2.2.2.2.2.1; rw [hfc] at this; simpa using this
    have HF := Lib.hid hfc
    clear hwd hsm hgr hdf
    clear hfc hfl h e36 e39 g36 g39 hc255
    go_enter Tryd.func35, Tryd.ntmps35
    go_upto_region 1 with fail
    rw [HW.out]
    go_wp2_with (first
      | (go_at_call 44; refine (rtDigit_any _ _).mono ?_; go_must (rintro e w2 ⟨rfl, rfl⟩; rw [Hdg.out]))
      | fail)
    go_loop [8] (fun i => ∃ n : Nat, n ≤ s.size ∧ i = .int .i64 n ∧ Hid (k + runN digitC (s.data.toList.drop k) = n + runN digitC (s.data.toList.drop n))) (fun i => s.size - (intOf i).toNat)
    case atStart => exact ⟨k, by omega, rfl, Lib.hid rfl⟩
    case round =>
      obtain ⟨n, hn, rfl, HA⟩ := hrel
      by_cases hlt2 : n < s.size
      · cases hx : digitC (s[n].toNat : Int) with
        | true =>
          have HS := Lib.hid (HA.out.trans (by rw [runN_here hlt2 hx]; omega : _ = n + 1 + runN digitC (s.data.toList.drop (n + 1))))
          go_wp2_with (first | (go_at_call 44; refine (rtDigit_any _ _).mono ?_; rintro e w' ⟨rfl, rfl⟩; rw [hx]) | fail)
          go_round
          case rel => exact ⟨n + 1, by omega, by go_num, HS⟩
          case measure => simp [intOf]; omega
        | false =>
          have hz := runN_stop hlt2 hx
          obtain ⟨r, hr⟩ : ∃ r, runN digitC (s.data.toList.drop k) = r := ⟨_, rfl⟩
          have hnr : n = k + r := by have := HA.out; omega
          rw [hr] at HF hpos hdg
          subst hnr
          go_wp2_with (first | (go_at_call 44; refine (rtDigit_any _ _).mono ?_; rintro e w' ⟨rfl, rfl⟩; rw [hx]) | fail)
          obtain ⟨p0, p1, p2, _⟩ := cells_tk (set3_tk (u := .int .i64 5) (v := .string (s.extract k (k + r))) (v' := .int .i64 (k : Int)) q0)
          exact bodyPost_ret (v := .tuple #[.agg #[.int .i64 5, .string (s.extract k (k + r)), .int .i64 (k : Int)], .int .i64 ((k + r : Nat) : Int)]) (by simp [results, Tryd.results35, go_sem, p0, p1, p2]) rfl (onePost_of (t := ⟨5, (s.extract k (k + r)), k⟩) (E := k + r) HF.out rfl (fun h => by cases h) (one_fin (by decide) (by omega) hpos) (bl_set3 hB (Nat.le_refl _)))
      · have hz := runN_end (p := digitC) (s := s) (k := n) (by omega)
        obtain ⟨r, hr⟩ : ∃ r, runN digitC (s.data.toList.drop k) = r := ⟨_, rfl⟩
        have hnr : n = k + r := by have := HA.out; omega
        rw [hr] at HF hpos hdg
        subst hnr
        go_wp2
        obtain ⟨p0, p1, p2, _⟩ := cells_tk (set3_tk (u := .int .i64 5) (v := .string (s.extract k (k + r))) (v' := .int .i64 (k : Int)) q0)
        exact bodyPost_ret (v := .tuple #[.agg #[.int .i64 5, .string (s.extract k (k + r)), .int .i64 (k : Int)], .int .i64 ((k + r : Nat) : Int)]) (by simp [results, Tryd.results35, go_sem, p0, p1, p2]) rfl (onePost_of (t := ⟨5, (s.extract k (k + r)), k⟩) (E := k + r) HF.out rfl (fun h => by cases h) (one_fin (by decide) (by omega) hpos) (bl_set3 hB (Nat.le_refl _)))
  · -- a quote
    have hsm : smallC (s[k].toNat : Int) = false := decide_eq_false (by omega)
    have hgr : greatC (s[k].toNat : Int) = false := decide_eq_false (by omega)
    have hdf : digitC (s[k].toNat : Int) = false := decide_eq_false (by omega)
    rw [if_neg (by rw [hsm]; simp), if_neg (by rw [hgr]; simp), if_neg (by rw [hdf]; simp), if_neg (fun e => by have := g36.1 e; omega), if_pos (g39.2 h), quotedT_eq] at hfc
    have d97 : decide ((97 : Int) ≤ (s[k].toNat : Int)) = false := decide_eq_false (by omega)
    have d65 : decide ((65 : Int) ≤ (s[k].toNat : Int)) = false := decide_eq_false (by omega)
    have f36 : ((s[k].toNat : Int) == 36) = false := by rw [beq_eq_false_iff_ne]; omega
    have f39 : ((s[k].toNat : Int) == 39) = true := by rw [beq_iff_eq]; omega
    have Hdg : Hid (digitC (s[k].toNat : Int) = false) := Lib.hid (decide_eq_false (by omega))
    have HC := Lib.hid (fun w => rtQuoted_any s k w (by omega) hs)
    obtain ⟨r, hr⟩ : ∃ r, quoN (s.data.toList.drop (k + 1)) = r := ⟨_, rfl⟩
    rw [hr] at hfc HC
    by_cases h0 : r = 0
    · rw [if_pos h0] at hfc
      have HF := Lib.hid hfc
      subst h0
      clear hsm hgr hdf hr hfc hfl h e36 e39 g36 g39 hc255 hwd hdg
      go_enter Tryd.func35, Tryd.ntmps35
      go_upto_region 1 with fail
      rw [HW.out]
      go_wp2_with (first
        | (go_at_call 44; refine (rtDigit_any _ _).mono ?_; go_must (rintro e w2 ⟨rfl, rfl⟩; rw [Hdg.out]))
        | (go_at_call 45; (with_reducible refine (HC.out _).mono ?_); go_must (rintro e w2 ⟨rfl, rfl⟩))
        | fail)
      obtain ⟨p0, p1, p2, _⟩ := cells_tk (set3_tk (u := .int .i64 0) (v := .string ⟨#[]⟩) (v' := .int .i64 0) q0)
      exact bodyPost_ret (v := .tuple #[.agg #[.int .i64 0, .string ⟨#[]⟩, .int .i64 0], .int .i64 ((k : Nat) : Int)]) (by simp [results, Tryd.results35, go_sem, p0, p1, p2]) rfl (onePost_of (t := ⟨0, ⟨#[]⟩, 0⟩) (E := k) HF.out rfl (fun _ => rfl) (fun h => absurd rfl h) (bl_set3 hB (Nat.le_refl _)))
    · rw [if_neg h0] at hfc
      have hl3 : r - 1 + 1 ≤ s.size - k := by have := hfl.2.2.1; rw [hfc] at this; exact (this rfl).2
      have hl4 : 1 < r - 1 := by have := hfl.2.2.2.2.2.1; rw [hfc] at this; exact this (by simp) (by simp)
      have HF := Lib.hid hfc
      have hne : ((k : Int) + (r : Int) == (k : Int)) = false := by rw [beq_eq_false_iff_ne]; omega
      clear hsm hgr hdf hr hfc hfl h e36 e39 g36 g39 hc255 hwd hdg
      go_enter Tryd.func35, Tryd.ntmps35
      go_upto_region 1 with fail
      rw [HW.out]
      go_wp2_with (first
        | (go_at_call 44; refine (rtDigit_any _ _).mono ?_; go_must (rintro e w2 ⟨rfl, rfl⟩; rw [Hdg.out]))
        | (go_at_call 45; (with_reducible refine (HC.out _).mono ?_); go_must (rintro e w2 ⟨rfl, rfl⟩))
        | fail)
      obtain ⟨p0, p1, p2, _⟩ := cells_tk (set3_tk (u := .int .i64 4) (v := .string (s.extract (k + 1) (k + r - 1))) (v' := .int .i64 (k : Int)) q0)
      refine bodyPost_ret (v := .tuple #[.agg #[.int .i64 4, .string (s.extract (k + 1) (k + r - 1)), .int .i64 (k : Int)], .int .i64 ((k + r : Nat) : Int)]) (by simp [results, Tryd.results35, go_sem, p0, p1, p2]) rfl (onePost_of (t := ⟨4, s.extract (k + 1) (k + r - 1), k⟩) (E := k + r) HF.out rfl (fun h => by cases h) (fun _ => ⟨?_, ?_, by omega⟩) (bl_set3 hB (Nat.le_refl _)))
      · rw [show k + r - 1 = k + (r - 1) by omega]
      · simp only [Tk.behind, if_true]
        rw [size_ext _ _ _ (by omega)]
        omega
  · -- a sign, or none
    have hsm : smallC (s[k].toNat : Int) = false := decide_eq_false (by omega)
    have hgr : greatC (s[k].toNat : Int) = false := decide_eq_false (by omega)
    have hdf : digitC (s[k].toNat : Int) = false := decide_eq_false (by omega)
    rw [if_neg (by rw [hsm]; simp), if_neg (by rw [hgr]; simp), if_neg (by rw [hdf]; simp), if_neg (fun e => by have := g36.1 e; omega), if_neg (fun e => by have := g39.1 e; omega)] at hfc
    have HC := Lib.hid (fun w => rtSign_any (s.extract k s.size) w)
    rw [ext_list] at HC
    have hsl := signN_le (s.data.toList.drop k)
    rw [List.length_drop, toList_len] at hsl
    obtain ⟨r, hr⟩ : ∃ r, signN (s.data.toList.drop k) = r := ⟨_, rfl⟩
    have hsg : signT (s.data.toList.drop k) = if r = 0 then (0, 0, 0) else (6, 0, r) := by unfold signT; rw [hr]
    rw [hsg] at hfc
    rw [hr] at HC hsl
    have Hdg : Hid (digitC (s[k].toNat : Int) = false) := Lib.hid hdf
    have f36 : ((s[k].toNat : Int) == 36) = false := by rw [beq_eq_false_iff_ne]; omega
    have f39 : ((s[k].toNat : Int) == 39) = false := by rw [beq_eq_false_iff_ne]; omega
    have HFc := Lib.hid hfc
    have Hend : Hid (∀ (w' : World) (e : Ending), e = .returned (.tuple #[.agg #[.int .i64 6, .string (s.extract k (k + r)), .int .i64 (k : Int)], .int .i64 ((k + r : Nat) : Int)]) → Below w.heap.size w w' → OnePost s k w e w') := Lib.hid fun w' e he hb => by
      by_cases h0 : r = 0
      · have hf := HFc.out
        rw [if_pos h0] at hf
        exact onePost_of (t := ⟨6, s.extract k (k + r), k⟩) (E := k + r) hf he (fun _ => by omega) (fun h => absurd rfl h) hb
      · have hf := HFc.out
        rw [if_neg h0] at hf
        exact onePost_of (t := ⟨6, s.extract k (k + r), k⟩) (E := k + r) hf he (fun h => by cases h) (one_fin (by decide) (by omega) (by omega)) hb
    clear hsm hgr hdf hsg hr hfc hfl e36 e39 g36 g39 hwd hdg
    rcases h with h | h | h
    · have d97 : decide ((97 : Int) ≤ (s[k].toNat : Int)) = false := decide_eq_false (by omega)
      have d65 : decide ((65 : Int) ≤ (s[k].toNat : Int)) = false := decide_eq_false (by omega)
      clear h hc255
      go_enter Tryd.func35, Tryd.ntmps35
      go_upto_region 1 with fail
      rw [HW.out]
      go_wp2_with (first
        | (go_at_call 44; refine (rtDigit_any _ _).mono ?_; go_must (rintro e w2 ⟨rfl, rfl⟩; rw [Hdg.out]))
        | (go_at_call 46; (with_reducible refine (HC.out _).mono ?_); go_must (
            rintro e w2 ⟨rfl, hb2⟩
            have q2 := (hb2.block _ hlt).trans q0
            obtain ⟨y0, y1, y2, v0, v1, v2⟩ := cells_tk q2))
        | fail)
      obtain ⟨p0, p1, p2, _⟩ := cells_tk (set3_tk (u := .int .i64 6) (v := .string (s.extract k (k + r))) (v' := .int .i64 (k : Int)) q2)
      exact bodyPost_ret (v := .tuple #[.agg #[.int .i64 6, .string (s.extract k (k + r)), .int .i64 (k : Int)], .int .i64 ((k + r : Nat) : Int)]) (by simp [results, Tryd.results35, go_sem, p0, p1, p2]) rfl (Hend.out _ _ rfl (bl_set3 (hB.trans (hb2.mono hB.size)) (Nat.le_refl _)))
    · have d97 : decide ((97 : Int) ≤ (s[k].toNat : Int)) = false := decide_eq_false (by omega)
      have d65 : decide ((65 : Int) ≤ (s[k].toNat : Int)) = true := decide_eq_true (by omega)
      have d90 : decide ((s[k].toNat : Int) ≤ 90) = false := decide_eq_false (by omega)
      clear h hc255
      go_enter Tryd.func35, Tryd.ntmps35
      go_upto_region 1 with fail
      rw [HW.out]
      go_wp2_with (first
        | (go_at_call 44; refine (rtDigit_any _ _).mono ?_; go_must (rintro e w2 ⟨rfl, rfl⟩; rw [Hdg.out]))
        | (go_at_call 46; (with_reducible refine (HC.out _).mono ?_); go_must (
            rintro e w2 ⟨rfl, hb2⟩
            have q2 := (hb2.block _ hlt).trans q0
            obtain ⟨y0, y1, y2, v0, v1, v2⟩ := cells_tk q2))
        | fail)
      obtain ⟨p0, p1, p2, _⟩ := cells_tk (set3_tk (u := .int .i64 6) (v := .string (s.extract k (k + r))) (v' := .int .i64 (k : Int)) q2)
      exact bodyPost_ret (v := .tuple #[.agg #[.int .i64 6, .string (s.extract k (k + r)), .int .i64 (k : Int)], .int .i64 ((k + r : Nat) : Int)]) (by simp [results, Tryd.results35, go_sem, p0, p1, p2]) rfl (Hend.out _ _ rfl (bl_set3 (hB.trans (hb2.mono hB.size)) (Nat.le_refl _)))
    · have d97 : decide ((97 : Int) ≤ (s[k].toNat : Int)) = true := decide_eq_true (by omega)
      have d122 : decide ((s[k].toNat : Int) ≤ 122) = false := decide_eq_false (by omega)
      have d65 : decide ((65 : Int) ≤ (s[k].toNat : Int)) = true := decide_eq_true (by omega)
      have d90 : decide ((s[k].toNat : Int) ≤ 90) = false := decide_eq_false (by omega)
      clear h hc255
      go_enter Tryd.func35, Tryd.ntmps35
      go_upto_region 1 with fail
      rw [HW.out]
      go_wp2_with (first
        | (go_at_call 44; refine (rtDigit_any _ _).mono ?_; go_must (rintro e w2 ⟨rfl, rfl⟩; rw [Hdg.out]))
        | (go_at_call 46; (with_reducible refine (HC.out _).mono ?_); go_must (
            rintro e w2 ⟨rfl, hb2⟩
            have q2 := (hb2.block _ hlt).trans q0
            obtain ⟨y0, y1, y2, v0, v1, v2⟩ := cells_tk q2))
        | fail)
      obtain ⟨p0, p1, p2, _⟩ := cells_tk (set3_tk (u := .int .i64 6) (v := .string (s.extract k (k + r))) (v' := .int .i64 (k : Int)) q2)
      exact bodyPost_ret (v := .tuple #[.agg #[.int .i64 6, .string (s.extract k (k + r)), .int .i64 (k : Int)], .int .i64 ((k + r : Nat) : Int)]) (by simp [results, Tryd.results35, go_sem, p0, p1, p2]) rfl (Hend.out _ _ rfl (bl_set3 (hB.trans (hb2.mono hB.size)) (Nat.le_refl _)))

end Go.Proofs.YtkpkhnaflohjpaaDoor

/- A range over a function whose iterator keeps cells of its own: what the body speaks of (C) and what the iterator owns lie apart. -/

namespace Go.Proofs.YtkpkhnaflohjpaaDoor

open Go Go.RowKit

variable {F : Fence} {n : Nat} {P : Program} {α : Type}

/-- The blocks of S lie as they lay. -/
structure Keeps (S : Nat → Prop) (W W' : World) : Prop where
  os : W'.os = W.os
  tape : W'.tape = W.tape
  output : W'.output = W.output
  size : W.heap.size ≤ W'.heap.size
  block : ∀ g, S g → W'.heap[g]? = W.heap[g]?

theorem Keeps.refl (S : Nat → Prop) (W : World) : Keeps S W W := ⟨rfl, rfl, rfl, Nat.le_refl _, fun _ _ => rfl⟩

theorem Keeps.trans {S : Nat → Prop} {A B C : World} (h : Keeps S A B) (k : Keeps S B C) : Keeps S A C :=
  ⟨k.os.trans h.os, k.tape.trans h.tape, k.output.trans h.output, Nat.le_trans h.size k.size, fun g hg => (k.block g hg).trans (h.block g hg)⟩

theorem Keeps.mono {S T : Nat → Prop} {A B : World} (h : Keeps S A B) (hs : ∀ g, T g → S g) : Keeps T A B := ⟨h.os, h.tape, h.output, h.size, fun g hg => h.block g (hs g hg)⟩

theorem Keeps.below {S : Nat → Prop} {b : Nat} {A B : World} (h : Keeps S A B) (hs : ∀ g, g < b → S g) : Below b A B := ⟨h.os, h.tape, h.output, h.size, fun g hg => h.block g (hs g hg)⟩

theorem Keeps.of_below {b : Nat} {A B : World} (h : Below b A B) : Keeps (· < b) A B := ⟨h.os, h.tape, h.output, h.size, h.block⟩

theorem Keeps.of_grown {A B : World} {row : Option Nat} (h : A.grownBy B row) : Keeps (fun g => g < A.heap.size ∧ some g ≠ row) A B := ⟨h.os, h.tape, h.output, h.size, fun g hg => h.block g hg.1 hg.2⟩

theorem Keeps.put (W : World) (l : Nat) (o : Obj) : Keeps (· ≠ l) W (W.putObj l o) :=
  ⟨rfl, rfl, rfl, by simp, fun _ hk => World.putObj_heap_other (fun e => hk e)⟩

theorem Keeps.alloc (W : World) (o : Obj) : Keeps (· < W.heap.size) W (W.alloc o) := Keeps.of_below ((Below.refl _ _).alloc (Nat.le_refl _) _)

theorem Keeps.set (W : World) (p : Addr) (v : Value) : Keeps (· ≠ p.block) W (W.setCell p v) := ⟨rfl, rfl, rfl, by simp, fun g hg => Below.heap_setCell W p v g hg⟩

theorem Keeps.drewN (S : Nat → Prop) (W : World) (k : Nat) : Keeps S W (W.drewN k) := ⟨rfl, rfl, rfl, Nat.le_refl _, fun _ _ => rfl⟩

/-- A step of the body's side: N's blocks, and the old ones that it does not speak of, lie as they lay; it speaks of no old ones more. -/
structure Stp (N : Nat → Prop) (C : World → Nat → Prop) (A B : World) : Prop where
  keeps : Keeps (fun g => N g ∨ (g < A.heap.size ∧ ¬ C A g)) A B
  grows : ∀ g, C B g → C A g ∨ A.heap.size ≤ g

theorem Stp.refl (N : Nat → Prop) (C : World → Nat → Prop) (A : World) : Stp N C A A := ⟨Keeps.refl _ _, fun _ h => .inl h⟩

theorem Stp.trans {N : Nat → Prop} {C : World → Nat → Prop} {A B D : World} (h : Stp N C A B) (k : Stp N C B D) : Stp N C A D := by
  refine ⟨h.keeps.trans (k.keeps.mono fun g hg => ?_), fun g hg => ?_⟩
  · rcases hg with hg | ⟨h1, h2⟩
    · exact .inl hg
    · exact .inr ⟨Nat.lt_of_lt_of_le h1 h.keeps.size, fun e => (h.grows g e).elim h2 (fun e => by omega)⟩
  · rcases k.grows g hg with h1 | h1
    · exact h.grows g h1
    · exact .inr (Nat.le_trans h.keeps.size h1)

/-- What is said of a state abides whatever turns none of C's blocks; and C gains nothing by that. -/
def FrameC {β : Type} (C : World → Nat → Prop) (J : β → World → Prop) : Prop := ∀ s W W', J s W → Keeps (C W) W W' → J s W' ∧ ∀ g, C W' g → C W g

def BoundC {β : Type} (C : World → Nat → Prop) (J : β → World → Prop) : Prop := ∀ s W, J s W → ∀ g, C W g → g < W.heap.size

/-- An iterator's contract: whatever the rounds speak of, as long as they keep to it. -/
def SeqC (F : Fence) (n : Nat) (P : Program) (gf : Nat) (lb : Array Value) (encs : α → Array Value) (Fx : α → World → Prop) (N : Nat → Prop) (S Sp : List α → Prop) (w : World) : Prop :=
  ∀ (l : Nat) (C : World → Nat → Prop) (J Jx : List α → World → Prop) (W : World), Below w.heap.size w W → FrameC C J → BoundC C J →
    (∀ m pre x W1, J pre W1 → Sp (pre ++ [x]) → Fx x W1 → YieldAt F m P l (encs x) W1 fun e W' =>
      (e = .returned (.bool true) ∧ J (pre ++ [x]) W' ∧ Stp N C W1 W') ∨ (e = .returned (.bool false) ∧ Jx (pre ++ [x]) W')) →
    J [] W →
    CallsIn F n P gf (#[.func (.yield l) #[] #[]] ++ lb) W fun e W' => (∃ v, e = .returned v) ∧ ((∃ xs, S xs ∧ J xs W') ∨ (∃ pre, Sp pre ∧ Jx pre W'))

/-- How a round's body may be left. -/
def bodyC (N : Nat → Prop) (C : World → Nat → Prop) (I : List α → World → Prop) (Ix : Code → List α → World → Prop) (xs : List α) (W : World) : Exit → Act → World → Prop
  | .normal, _, W' => I xs W' ∧ Stp N C W W'
  | .ret, _, W' => Ix .ret xs W' ∧ Stp N C W W'
  | .exit id, _, W' => Ix (.exit id) xs W' ∧ Stp N C W W'
  | .goto t, _, W' => Ix (.goto t) xs W' ∧ Stp N C W W'
  | .panic _, _, _ => False
  | .outgrown, _, _ => False

theorem range_law {g : Operand} {ps : Array Tmp} {assign body : Code} {Q : Exit → Act → World → Prop} {a : Act} {w : World}
    (hro : F.round = none) (hd : F.depth = none) {gf : Nat} {lb : Array Value} (hg : a.eval g = .func (.func gf) #[] lb) (hFg : F.fn gf) (eg : ∀ args w, (callFunc gf args).run P w = .ok (.enter gf args) w)
    {encs : α → Array Value} {Fx : α → World → Prop} {N : Nat → Prop} {S Sp : List α → Prop} {w0 : World} (hseq : ∀ m, SeqC F m P gf lb encs Fx N S Sp w0) (hb0 : Below w0.heap.size w0 w) (hps : ∀ x, (encs x).size = ps.size) (hN : ∀ g, N g → g < w.heap.size)
    (C : World → Nat → Prop) (I : List α → World → Prop) (Ix : Code → List α → World → Prop) (hI : FrameC C I) (hbd : BoundC C I) (hIx : ∀ c, FrameC C (Ix c))
    (h0 : I [] w) (Ax : List α → α → Act → World → Prop)
    (hAx : ∀ pre x a' W l r o, Ax pre x a' W → w.heap.size ≤ l → W.heap[l]? = some (.loop r) → ¬ C W l → (∀ g, C (W.putObj l o) g → C W g) ∧ Ax pre x a' (W.putObj l o))
    (hassign : ∀ (l m : Nat) (pre : List α) (x : α) (W : World) (K : Act → World → Prop), I pre W → Sp (pre ++ [x]) → Fx x W → (∀ a' W', Stp N C W W' → Ax pre x a' W' → K a' W') →
      assign.wpIn (F.inRound l) m P (Exit.then K (fun _ _ _ => False)) { tmps := (ps.zip (encs x)).foldl (fun t (p, v) => t.setIfInBounds p v) a.tmps, defers := [] } W)
    (hbody : ∀ (l m : Nat) (pre : List α) (x : α) (a' : Act) (W : World), Sp (pre ++ [x]) → Ax pre x a' W → body.wpIn (F.inRound l) m P (bodyC N C I Ix (pre ++ [x]) W) a' W)
    (hdone : ∀ (D : Nat) (xs : List α) (W : World), w.heap.size ≤ D → S xs → I xs W → W.heap[D]? = some (.deferred (some [])) → Q .normal { a with defers := { target := .collected D, args := #[] } :: a.defers } W)
    (hstop : ∀ (D : Nat) (c : Code) (pre : List α) (W : World), w.heap.size ≤ D → Sp pre → Ix c pre W → W.heap[D]? = some (.deferred (some [])) → c.wpIn F n P Q { a with defers := { target := .collected D, args := #[] } :: a.defers } W) :
    (Code.rangeFunc g ps assign body).wpIn F n P Q a w := by
  refine wpIn_rangeFunc fun fn hfn => ?_
  rw [hro]
  have hdd : ∀ k : Nat, F.depth.isSome = true → 1 ≤ k := fun k h => by rw [hd] at h; cases h
  -- the two blocks that the statement lays: for the rounds' deferred calls (d); the loop's record (l)
  obtain ⟨d, hd0⟩ : ∃ d, d = w.heap.size := ⟨_, rfl⟩
  obtain ⟨rec, hrec⟩ : ∃ rec : LoopState → Option Code → Loop, rec = fun st pe => { state := st, pending := pe, fn, tmps := a.tmps, params := ps, assign, body, defers := w.heap.size } := ⟨_, rfl⟩
  obtain ⟨W1, hW1⟩ : ∃ W1, (w.alloc (.deferred (some []))).alloc (.loop (rec .ready none)) = W1 := ⟨_, rfl⟩
  have hl1 : W1.heap[d + 1]? = some (.loop (rec .ready none)) := by
    rw [← hW1, hd0, show w.heap.size + 1 = (w.alloc (.deferred (some []))).heap.size by simp]; exact World.alloc_heap_new _ _
  have hk1 : W1.heap[d]? = some (.deferred (some [])) := by rw [← hW1, hd0]; exact (Below.heap_alloc _ _ _ (by simp)).trans (World.alloc_heap_new w _)
  have hBw : Below w.heap.size w W1 := by rw [← hW1]; exact ((Below.refl _ w).alloc (Nat.le_refl _) _).alloc (by simp) _
  have hIw := hI [] w W1 h0 ((Keeps.of_below hBw).mono fun g e => hbd [] w h0 g e)
  have hbw : ∀ g, C W1 g → g < w.heap.size := fun g e => hbd [] w h0 g (hIw.2 g e)
  have hNd : ∀ g, N g → g < d := fun g e => by rw [hd0]; exact hN g e
  -- what the rounds speak of, with the two blocks
  let CJ : World → Nat → Prop := fun W g => C W g ∨ g = d + 1 ∨ g = d
  let J : List α → World → Prop := fun pre W => I pre W ∧ (W.heap[d + 1]? = some (.loop (rec .ready none)) ∧ W.heap[d]? = some (.deferred (some []))) ∧ ¬ C W (d + 1) ∧ ¬ C W d
  let Jx : List α → World → Prop := fun pre W => ∃ c, Ix c pre W ∧ (W.heap[d + 1]? = some (.loop (rec .done (some c))) ∧ W.heap[d]? = some (.deferred (some []))) ∧ ¬ C W (d + 1)
  have hJF : FrameC CJ J := by
    rintro s A B ⟨h1, ⟨h2, h3⟩, h4, h5⟩ hk
    have hi := hI s A B h1 (hk.mono fun g e => .inl e)
    exact ⟨⟨hi.1, ⟨(hk.block _ (.inr (.inl rfl))).trans h2, (hk.block _ (.inr (.inr rfl))).trans h3⟩, fun e => h4 (hi.2 _ e), fun e => h5 (hi.2 _ e)⟩, fun g e => e.elim (fun e => .inl (hi.2 g e)) .inr⟩
  have hJB : BoundC CJ J := by
    rintro s A ⟨h1, ⟨h2, h3⟩, _, _⟩ g (e | rfl | rfl)
    · exact hbd s A h1 g e
    · exact (Array.getElem?_eq_some_iff.1 h2).1
    · exact (Array.getElem?_eq_some_iff.1 h3).1
  refine ⟨d + 1, [{ target := .collected d, args := #[] }], W1, { target := .fn (.func gf) lb, args := #[.func (.yield (d + 1)) #[] #[]] }, W1, gf, #[.func (.yield (d + 1)) #[] #[]] ++ lb, W1, ?_, ?_, ?_, ?_, fun h => hdd _ h, ?_⟩
  · rw [← hW1, hrec, hd0]; exact run_enterLoop_outer _ _ _ _ _
  · simp only [resolve, hg]
    simp [go_sem]
  · intro f' hf'; simp [Target.leads] at hf'; subst hf'; exact hFg
  · simp [invoke, go_sem, eg]
  · refine (hseq _ (d + 1) CJ J Jx W1 (hb0.trans (hBw.mono hb0.size)) hJF hJB ?_ ⟨hIw.1, ⟨hl1, hk1⟩, fun e => ?_, fun e => ?_⟩).mono ?_
    · -- one round
      rintro m pre x W ⟨hi, ⟨hl, hk⟩, hnl, hnd⟩ hsp hfx
      have hy := run_yield (P := P) (args := encs x) hl (by rw [hrec]; exact hps x)
      rw [hrec] at hy
      refine ⟨fn, _, assign, body, hy, roundIn_of_wpIn hfn (hassign _ m pre x W _ hi hsp hfx ?_)⟩
      clear hy
      intro a' Wa hst hax
      have hlW : d + 1 < W.heap.size := (Array.getElem?_eq_some_iff.1 hl).1
      have hla : Wa.heap[d + 1]? = some (.loop (rec .ready none)) := (hst.keeps.block _ (.inr ⟨hlW, hnl⟩)).trans hl
      have hka : Wa.heap[d]? = some (.deferred (some [])) := (hst.keeps.block _ (.inr ⟨by omega, hnd⟩)).trans hk
      have hnla : ¬ C Wa (d + 1) := fun e => (hst.grows _ e).elim hnl (fun e => by omega)
      have hnda : ¬ C Wa d := fun e => (hst.grows _ e).elim hnd (fun e => by omega)
      have hla1 : d + 1 < Wa.heap.size := (Array.getElem?_eq_some_iff.1 hla).1
      refine ⟨_, run_beginRound hla (by rw [hrec]), ?_⟩
      obtain ⟨hgr, hax2⟩ := hAx pre x a' Wa (d + 1) _ (.loop { rec .ready none with state := .busy }) hax (by omega) hla hnla
      obtain ⟨Wb, hWb⟩ : ∃ Wb, Wa.putObj (d + 1) (.loop { rec .ready none with state := .busy }) = Wb := ⟨_, rfl⟩
      have hlb : Wb.heap[d + 1]? = some (.loop { rec .ready none with state := .busy }) := by rw [← hWb]; exact World.putObj_heap_same hla1
      have hkb : Wb.heap[d]? = some (.deferred (some [])) := by rw [← hWb]; exact (World.putObj_heap_other (by omega)).trans hka
      have hKab : Keeps (· ≠ d + 1) Wa Wb := by rw [← hWb]; exact Keeps.put _ _ _
      rw [hWb] at hgr hax2 ⊢
      have hnlb : ¬ C Wb (d + 1) := fun e => hnla (hgr _ e)
      have hndb : ¬ C Wb d := fun e => hnda (hgr _ e)
      refine wpIn_mono (hbody _ m pre x a' Wb hsp hax2) ?_
      have hszb : Wa.heap.size ≤ Wb.heap.size := hKab.size
      have fin : ∀ (jump : Option Code) (W3 : World), Stp N C Wb W3 →
          (Instr.endRound (d + 1) jump).run P W3 = .ok (.bool jump.isNone) (W3.putObj (d + 1) (.loop (rec (if jump.isNone then .ready else .done) jump))) ∧
          (W3.putObj (d + 1) (.loop (rec (if jump.isNone then .ready else .done) jump))).heap[d + 1]? = some (.loop (rec (if jump.isNone then .ready else .done) jump)) ∧
          (W3.putObj (d + 1) (.loop (rec (if jump.isNone then .ready else .done) jump))).heap[d]? = some (.deferred (some [])) ∧ ¬ C W3 (d + 1) ∧ ¬ C W3 d := fun jump W3 h3 => by
        have hl3 : W3.heap[d + 1]? = some (.loop { rec .ready none with state := .busy }) := (h3.keeps.block _ (.inr ⟨by omega, hnlb⟩)).trans hlb
        have hk3 : W3.heap[d]? = some (.deferred (some [])) := (h3.keeps.block _ (.inr ⟨by omega, hndb⟩)).trans hkb
        have := run_endRound (P := P) jump hl3
        rw [hrec] at this ⊢
        exact ⟨this, World.putObj_heap_same (Array.getElem?_eq_some_iff.1 hl3).1, (World.putObj_heap_other (by omega)).trans hk3, fun e => (h3.grows _ e).elim hnlb (fun e => by omega), fun e => (h3.grows _ e).elim hndb (fun e => by omega)⟩
      rintro e a3 W3 hp
      cases e with
      | normal =>
        obtain ⟨hi3, h3⟩ := hp
        obtain ⟨hr, hl4, hk4, hn4, hm4⟩ := fin none W3 h3
        obtain ⟨hi4, hg4⟩ := hI _ W3 _ hi3 ((Keeps.put W3 (d + 1) (.loop (rec (if (none : Option Code).isNone then .ready else .done) none))).mono fun g e he => hn4 (he ▸ e))
        refine ⟨_, _, hr, .inl ⟨rfl, ⟨hi4, ⟨hl4, hk4⟩, fun e => hn4 (hg4 _ e), fun e => hm4 (hg4 _ e)⟩, ⟨?_, ?_⟩⟩⟩
        · refine (hst.keeps.mono fun g hg => ?_).trans ((hKab.mono fun g hg => ?_).trans ((h3.keeps.mono fun g hg => ?_).trans ((Keeps.put W3 (d + 1) _).mono fun g hg => ?_)))
          · exact hg.elim .inl fun hg => .inr ⟨hg.1, fun e => hg.2 (.inl e)⟩
          · exact hg.elim (fun e => by have := hNd _ e; omega) fun hg e => hg.2 (.inr (.inl e))
          · exact hg.elim .inl fun hg => .inr ⟨by have := hst.keeps.size; omega, fun e => (hst.grows g (hgr g e)).elim (fun e => hg.2 (.inl e)) (fun e => by omega)⟩
          · exact hg.elim (fun e => by have := hNd _ e; omega) fun hg e => hg.2 (.inr (.inl e))
        · rintro g (e | e)
          · rcases h3.grows g (hg4 g e) with e | e
            · rcases hst.grows g (hgr g e) with e | e
              · exact .inl (.inl e)
              · exact .inr e
            · exact .inr (Nat.le_trans hst.keeps.size (Nat.le_trans hszb e))
          · exact .inl (.inr e)
      | ret =>
        obtain ⟨hi3, h3⟩ := hp
        obtain ⟨hr, hl4, hk4, hn4, hm4⟩ := fin (some .ret) W3 h3
        have hK4 := (Keeps.put W3 (d + 1) (.loop (rec (if (some Code.ret).isNone then .ready else .done) (some .ret)))).mono (T := C W3) fun g e he => hn4 (he ▸ e)
        exact ⟨_, _, hr, .inr ⟨rfl, .ret, (hIx _ _ W3 _ hi3 hK4).1, ⟨hl4, hk4⟩, fun e => hn4 ((hIx _ _ W3 _ hi3 hK4).2 _ e)⟩⟩
      | exit id =>
        obtain ⟨hi3, h3⟩ := hp
        obtain ⟨hr, hl4, hk4, hn4, hm4⟩ := fin (some (.exit id)) W3 h3
        have hK4 := (Keeps.put W3 (d + 1) (.loop (rec (if (some (Code.exit id)).isNone then .ready else .done) (some (.exit id))))).mono (T := C W3) fun g e he => hn4 (he ▸ e)
        exact ⟨_, _, hr, .inr ⟨rfl, .exit id, (hIx _ _ W3 _ hi3 hK4).1, ⟨hl4, hk4⟩, fun e => hn4 ((hIx _ _ W3 _ hi3 hK4).2 _ e)⟩⟩
      | goto t =>
        obtain ⟨hi3, h3⟩ := hp
        obtain ⟨hr, hl4, hk4, hn4, hm4⟩ := fin (some (.goto t)) W3 h3
        have hK4 := (Keeps.put W3 (d + 1) (.loop (rec (if (some (Code.goto t)).isNone then .ready else .done) (some (.goto t))))).mono (T := C W3) fun g e he => hn4 (he ▸ e)
        exact ⟨_, _, hr, .inr ⟨rfl, .goto t, (hIx _ _ W3 _ hi3 hK4).1, ⟨hl4, hk4⟩, fun e => hn4 ((hIx _ _ W3 _ hi3 hK4).2 _ e)⟩⟩
      | panic ch => exact hp.elim
      | outgrown => exact hp.elim
    · have := hbw _ e; omega
    · have := hbw _ e; omega
    · -- behind the iterator
      rintro e W2 ⟨⟨v, rfl⟩, (⟨xs, hS, hi, ⟨hl, hk⟩, hnl, _⟩ | ⟨pre, hSp, c, hi, ⟨hl, hk⟩, hnl⟩)⟩
      · refine ⟨none, _, by have := run_endLoop (P := P) hl (by rw [hrec]; simp); rw [hrec] at this; exact this, hdone d xs _ (by omega) hS ?_ ((World.putObj_heap_other (by omega)).trans hk)⟩
        exact (hI xs W2 _ hi ((Keeps.put W2 (d + 1) _).mono fun g e he => hnl (he ▸ e))).1
      · refine ⟨some c, _, by have := run_endLoop (P := P) hl (by rw [hrec]; simp); rw [hrec] at this; exact this, hstop d c pre _ (by omega) hSp ?_ ((World.putObj_heap_other (by omega)).trans hk)⟩
        exact (hIx c pre W2 _ hi ((Keeps.put W2 (d + 1) _).mono fun g e he => hnl (he ▸ e))).1

end Go.Proofs.YtkpkhnaflohjpaaDoor

/- A region that draws its order, whose operations read, and whose calls may make memory: one walk, in the order of the text. -/

namespace Go.Proofs.YtkpkhnaflohjpaaDoor

open Go Go.RowKit

/-- A world in which all that lay below n in W lies as it lay. -/
structure Later (n : Nat) (W : World) where
  w : World
  h : Below n W w

instance (n : Nat) (W : World) : Nonempty (Later n W) := ⟨⟨W, Below.refl _ _⟩⟩

def Later.step {n : Nat} {W : World} (x : Later n W) {w' : World} (h : Below x.w.heap.size x.w w') (hn : n ≤ W.heap.size) : Later n W := ⟨w', x.h.trans (h.mono (Nat.le_trans hn x.h.size))⟩

theorem wp_region_later {P : Program} {id : Nat} {Q : Exit → Act → World → Prop} {a : Act} {w : World} {l : List Oper} (n : Nat) (W : World) (hm : P.follows .mixedOrders = true) (hB : Region.lexB .any l.toArray = true) (h0 : Below n W w.drew)
    (h : wpQuiet P l.toArray (fun w' => ∃ x : Later n W, w' = x.w) (fun a' => ∀ w', (∃ x : Later n W, w' = x.w) → Q .normal a' w') l a) : (Code.region id l.toArray true).wp P Q a w :=
  wp_region_quiet (C := fun w' => ∃ x : Later n W, w' = x.w) hm hB ⟨⟨_, h0⟩, rfl⟩ (by simpa using h)

/-- A call's contract, met in a later world. -/
theorem calls_later {P : Program} {f : FuncId} {args : Array Value} {n : Nat} {W : World} {v : Value} (x : Later n W) (hn : n ≤ W.heap.size) (h : Calls P f args x.w fun e w' => e = .returned v ∧ Below x.w.heap.size x.w w') :
    Calls P f args x.w fun e w' => e = .returned v ∧ ∃ y : Later n W, w' = y.w :=
  h.mono fun _ _ ⟨he, hb⟩ => ⟨he, x.step hb hn, rfl⟩

end Go.Proofs.YtkpkhnaflohjpaaDoor

/- A region that draws its order, whose operations make memory and call: what each leaves is said by a fact that stays as memory grows; each operation is looked at once, out of the facts of those that it waits for. -/

namespace Go.Proofs.YtkpkhnaflohjpaaDoor

open Go Go.RowKit

/-- A fact on a value that stays as memory grows. -/
structure Fct where
  p : Value → World → Prop
  st : ∀ {v : Value} {w w' : World}, p v w → Below w.heap.size w w' → p v w'

def Fct.eq (v : Value) : Fct := ⟨fun x _ => x = v, fun h _ => h⟩

def Fct.any : Fct := ⟨fun _ _ => True, fun h _ => h⟩

/-- What is asked of what an operation comes to. -/
def leaves (P : Program) (K : Value → World → Prop) : Result Next → Prop
  | .ok (.value u) w' => K u w'
  | .ok .skip w' => K undef w'
  | .ok (.enter f args) w' => Calls P f args w' fun e w'' => ∃ v, e = .returned v ∧ K v w''
  | _ => False

/-- What is known of the slots that an operation looks at. -/
def lookF (Fs : List Fct) (a0 a : Act) (w : World) : List (Nat × Option Nat) → Prop
  | [] => True
  | (t, none) :: r => a.eval (.tmp t) = a0.eval (.tmp t) ∧ lookF Fs a0 a w r
  | (t, some j) :: r => (Fs.getD j Fct.any).p (a.eval (.tmp t)) w ∧ lookF Fs a0 a w r

/-- One operation: its guard lets it by, and it leaves what is said; or its guard does not. -/
def stepF (P : Program) (Fs : List Fct) (a0 : Act) (W : World) (o : Oper) (ds : List (Nat × Option Nat)) (p : Fct) : Prop :=
  ((∀ j want, o.guard = some (j, want) → ∀ v w, (Fs.getD j Fct.any).p v w → v = .bool want) ∧
    ∀ (a : Act) (w : World), Below W.heap.size W w → lookF Fs a0 a w ds → leaves P (fun v w' => Below w.heap.size w w' ∧ p.p v w') ((execOp a.eval o).run P w)) ∨
  ((∃ j want, o.guard = some (j, want) ∧ ∀ v w, (Fs.getD j Fct.any).p v w → v = .bool (!want)) ∧ ∀ w, p.p undef w)

def stepsF (P : Program) (Fs : List Fct) (a0 : Act) (W : World) : List Oper → List (List (Nat × Option Nat)) → List Fct → Prop
  | o :: l, ds :: dl, p :: pl => stepF P Fs a0 W o ds p ∧ stepsF P Fs a0 W l dl pl
  | [], [], [] => True
  | _, _, _ => False

/-- All have come up. -/
def finF (Q : Act → World → Prop) (w : World) : List Oper → List Fct → Act → Prop
  | o :: l, p :: pl, a => match o.dst with
    | some d => ∀ v, p.p v w → finF Q w l pl (a.put (some d) v)
    | none => finF Q w l pl a
  | _, _, a => Q a w

/-- The region is of the kind: each waits for those that write what it looks at; no two write the same slot. -/
def kindF (n : Nat) (l : List Oper) (dl : List (List (Nat × Option Nat))) : Bool :=
  (l.zipIdx.all fun (o, i) => o.after.all (fun e => !Region.binds .any e || decide (e.on < i)) &&
    (match o.guard with | none => true | some (j, _) => o.after.any (fun e => Region.binds .any e && e.on == j) && (match (l[j]?).bind (·.dst) with | none => false | some _ => true)) &&
    (match o.dst with | none => true | some d => decide (d < n) && l.zipIdx.all fun (o', i') => i' == i || o'.dst != some d)) &&
  ((l.zip dl).all fun (o, ds) => ds.all fun (t, s) => match s with
    | none => l.all fun o' => o'.dst != some t
    | some j => (match l[j]? with | some o' => o'.dst == some t | none => false) && o.after.any (fun e => Region.binds .any e && e.on == j)) &&
  l.length == dl.length

section

variable {P : Program} {Q : Exit → Act → World → Prop}

theorem wpAny_inv {ops : Array Oper} (I : Array Bool → Act → World → Prop) (hI : ∀ listed a w, I listed a w → listed.size = ops.size)
    (hstep : ∀ listed a w i, I listed a w → i ∈ Region.ready .any ops listed → wpOp P ops Q i (fun a' w' => I (listed.setIfInBounds i true) a' w') a w)
    (hdone : ∀ listed a w, I listed a w → Region.ready .any ops listed = [] → Q .normal a w) (hfull : ∀ listed, listed.size = ops.size → listed.toList.count false = 0 → Region.ready .any ops listed = []) :
    ∀ (fuel : Nat) (listed : Array Bool) (a : Act) (w : World), listed.toList.count false ≤ fuel → I listed a w → wpAny P .any ops Q fuel listed a w
  | 0, listed, a, w, hc, h => by
    have hr := hfull listed (hI _ _ _ h) (by omega)
    exact ⟨hr, hdone _ _ _ h hr⟩
  | fuel + 1, listed, a, w, hc, h => by
    refine ⟨fun hr => hdone _ _ _ h hr, fun i hi => wpOp_mono (fun a' w' h' => wpAny_inv I hI hstep hdone hfull fuel _ a' w' ?_ h') (hstep _ _ _ i h hi)⟩
    obtain ⟨h0, o, ho, _⟩ := mem_ready.1 hi
    have hlt : i < listed.size := by rw [hI _ _ _ h]; exact (Array.getElem?_eq_some_iff.1 ho).1
    have hf : listed.toList[i]'(by simpa using hlt) = false := by simpa [hlt] using h0
    rw [Array.toList_setIfInBounds, List.count_set (by simpa using hlt)]
    have : 0 < listed.toList.count false := List.count_pos_iff.2 (by rw [← hf]; exact List.getElem_mem _)
    rw [hf]
    show listed.toList.count false - 1 + 0 ≤ fuel
    omega

theorem leaves_wp {o : Oper} {a : Act} {w : World} {K : Value → World → Prop} {K' : Act → World → Prop} (h : leaves P K ((execOp a.eval o).run P w)) (hk : ∀ v w', K v w' → K' (a.put o.dst v) w') : o.wp P a w K' Q := by
  unfold Oper.wp
  generalize (execOp a.eval o).run P w = r at h
  cases r with
  | ok n w' =>
    cases n <;> simp only [leaves] at h <;> simp only [Oper.upon]
    case value u => exact hk _ _ h
    case skip => exact hk _ _ h
    case enter f args => exact Calls.mono h fun e w'' ⟨v, he, hK⟩ => by subst he; exact hk _ _ hK
  | halt x w' => simp only [leaves] at h

theorem stepsF_get {Fs : List Fct} {a0 : Act} {W : World} : ∀ {l : List Oper} {dl : List (List (Nat × Option Nat))} {pl : List Fct}, stepsF P Fs a0 W l dl pl → ∀ (i : Nat) (o : Oper), l[i]? = some o → ∃ ds p, dl[i]? = some ds ∧ pl[i]? = some p ∧ stepF P Fs a0 W o ds p
  | o :: l, ds :: dl, p :: pl, h, 0, o', ho => by
    simp at ho
    subst ho
    exact ⟨ds, p, rfl, rfl, h.1⟩
  | o :: l, ds :: dl, p :: pl, h, i + 1, o', ho => stepsF_get h.2 i o' (by simpa using ho)
  | [], [], [], _, i, o', ho => by simp at ho
  | [], [], _ :: _, h, _, _, _ => h.elim
  | [], _ :: _, _, h, _, _, _ => h.elim
  | _ :: _, [], _, h, _, _, _ => h.elim
  | _ :: _, _ :: _, [], h, _, _, _ => h.elim

theorem finF_of {Q : Act → World → Prop} {w : World} {Fs : List Fct} {a : Act} : ∀ (l : List Oper) (pl : List Fct) (b : Act), finF Q w l pl b → a.defers = b.defers → a.tmps.size = b.tmps.size → l.length = pl.length →
    (∀ t, (∀ o ∈ l, o.dst ≠ some t) → a.tmps[t]? = b.tmps[t]?) → (∀ (i : Nat) (o : Oper) (p : Fct) (d : Nat), l[i]? = some o → pl[i]? = some p → o.dst = some d → d < a.tmps.size ∧ p.p (a.eval (.tmp d)) w) → Q a w
  | [], pl, b, h, hd, hs, hl, ht, hp => by
    obtain rfl : pl = [] := List.eq_nil_of_length_eq_zero (by simpa using hl.symm)
    have : a = b := by
      obtain ⟨at', ad⟩ := a
      obtain ⟨bt, bd⟩ := b
      simp only [Act.mk.injEq]
      exact ⟨Array.ext_getElem? fun t => ht t (by simp), hd⟩
    rw [this]
    exact h
  | o :: l, [], b, h, hd, hs, hl, ht, hp => by simp at hl
  | o :: l, p :: pl, b, h, hd, hs, hl, ht, hp => by
    simp only [List.length_cons, Nat.add_right_cancel_iff] at hl
    unfold finF at h
    cases hdst : o.dst with
    | none =>
      rw [hdst] at h
      refine finF_of (Fs := Fs) l pl b h hd hs hl (fun t e => ht t fun o' ho' => ?_) (fun i o' p' d e1 e2 e3 => hp (i + 1) o' p' d (by simpa using e1) (by simpa using e2) e3)
      rcases List.mem_cons.1 ho' with rfl | ho'
      · rw [hdst]; simp
      · exact e o' ho'
    | some d =>
      rw [hdst] at h
      obtain ⟨hlt, hpd⟩ := hp 0 o p d rfl rfl hdst
      refine finF_of (Fs := Fs) l pl _ (h _ hpd) (by simpa [Act.put] using hd) (by simpa [Act.put] using hs) hl (fun t e => ?_) (fun i o' p' d e1 e2 e3 => hp (i + 1) o' p' d (by simpa using e1) (by simpa using e2) e3)
      by_cases htd : t = d
      · subst htd
        simp only [Act.put, Act.eval]
        rw [Array.getElem?_setIfInBounds]
        simp [hlt, ← hs]
      · simp only [Act.put]
        rw [Array.getElem?_setIfInBounds_ne (Ne.symm htd)]
        refine ht t fun o' ho' => ?_
        rcases List.mem_cons.1 ho' with rfl | ho'
        · rw [hdst]; intro e'; injection e' with e'; exact htd e'.symm
        · exact e o' ho'

theorem lookF_of {Fs : List Fct} {a0 a : Act} {w : World} {l : List Oper} {o : Oper} : ∀ (ds : List (Nat × Option Nat)),
    (∀ t s, (t, s) ∈ ds → match s with | none => a.eval (.tmp t) = a0.eval (.tmp t) | some j => (Fs.getD j Fct.any).p (a.eval (.tmp t)) w) → lookF Fs a0 a w ds
  | [], _ => trivial
  | (t, none) :: r, h => ⟨h t none (by simp), lookF_of (l := l) (o := o) r fun t s e => h t s (by simp [e])⟩
  | (t, some j) :: r, h => ⟨h t (some j) (by simp), lookF_of (l := l) (o := o) r fun t s e => h t s (by simp [e])⟩

/-- What the Bool says. -/
structure KindF (n : Nat) (l : List Oper) (dl : List (List (Nat × Option Nat))) : Prop where
  ac : ∀ (i : Nat) (o : Oper), l[i]? = some o → ∀ e ∈ o.after, Region.binds .any e = true → e.on < i
  gd : ∀ (i : Nat) (o : Oper) (j : Nat) (want : Bool), l[i]? = some o → o.guard = some (j, want) → ∃ e ∈ o.after, Region.binds .any e = true ∧ e.on = j ∧ ∃ (o' : Oper) (d : Nat), l[j]? = some o' ∧ o'.dst = some d
  dn : ∀ (i : Nat) (o : Oper) (d : Nat), l[i]? = some o → o.dst = some d → d < n
  un : ∀ (i : Nat) (o : Oper) (i' : Nat) (o' : Oper) (d : Nat), l[i]? = some o → l[i']? = some o' → o.dst = some d → o'.dst = some d → i = i'
  lk : ∀ (i : Nat) (o : Oper) (ds : List (Nat × Option Nat)) (t : Nat) (s : Option Nat), l[i]? = some o → dl[i]? = some ds → (t, s) ∈ ds → match s with
    | none => ∀ o' ∈ l, o'.dst ≠ some t
    | some j => ∃ o' : Oper, l[j]? = some o' ∧ o'.dst = some t ∧ ∃ e ∈ o.after, Region.binds .any e = true ∧ e.on = j

theorem kindF_spec {n : Nat} {l : List Oper} {dl : List (List (Nat × Option Nat))} (h : kindF n l dl = true) : KindF n l dl := by
  unfold kindF at h
  simp only [Bool.and_eq_true, List.all_eq_true, beq_iff_eq] at h
  obtain ⟨⟨h1, h2⟩, h3⟩ := h
  have hz : ∀ i o, l[i]? = some o → (o, i) ∈ l.zipIdx := fun i o e => by
    rw [List.mem_zipIdx_iff_getElem?]; exact e
  refine ⟨fun i o e x hx hb => ?_, fun i o j want e hg => ?_, fun i o d e hd => ?_, fun i o i' o' d e e' hd hd' => ?_, fun i o ds t s e ed hm => ?_⟩
  · have := (h1 _ (hz i o e)).1.1
    have := Array.all_eq_true_iff_forall_mem.1 this x hx
    simpa [hb] using this
  · have := (h1 _ (hz i o e)).1.2
    simp only [hg, Bool.and_eq_true] at this
    obtain ⟨x, hx, hb⟩ := Array.any_eq_true'.1 this.1
    simp only [Bool.and_eq_true, beq_iff_eq] at hb
    have h4 := this.2
    cases hj : (l[j]?).bind (·.dst) with
    | none => rw [hj] at h4; simp at h4
    | some d =>
      obtain ⟨o', ho', hd⟩ := Option.bind_eq_some_iff.1 hj
      exact ⟨x, hx, hb.1, hb.2, o', d, ho', hd⟩
  · have := (h1 _ (hz i o e)).2
    simp only [hd, Bool.and_eq_true, decide_eq_true_eq] at this
    exact this.1
  · have := (h1 _ (hz i o e)).2
    simp only [hd, Bool.and_eq_true, List.all_eq_true] at this
    have := this.2 _ (hz i' o' e')
    simp only [hd', Bool.or_eq_true, beq_iff_eq, bne_self_eq_false, Bool.false_eq_true, or_false] at this
    exact this.symm
  · have hmem : (o, ds) ∈ l.zip dl := by
      refine List.mem_of_getElem? (i := i) ?_
      rw [List.getElem?_zip_eq_some]
      exact ⟨e, ed⟩
    have := h2 _ hmem (t, s) hm
    cases s with
    | none =>
      intro o' ho' hd
      have := List.all_eq_true.1 this o' ho'
      rw [hd] at this
      simp at this
    | some j =>
      simp only [Bool.and_eq_true] at this
      obtain ⟨h5, h6⟩ := this
      obtain ⟨x, hx, hb⟩ := Array.any_eq_true'.1 h6
      simp only [Bool.and_eq_true, beq_iff_eq] at hb
      cases hj : l[j]? with
      | none => rw [hj] at h5; simp at h5
      | some o' =>
        rw [hj] at h5
        exact ⟨o', hj, by simpa using h5, x, hx, hb.1, hb.2⟩

/-- What holds however far the region is. -/
structure InvF (n : Nat) (Fs : List Fct) (l : List Oper) (a0 : Act) (W : World) (listed : Array Bool) (a : Act) (w : World) : Prop where
  ls : listed.size = l.toArray.size
  bl : Below W.heap.size W w
  sz : a.tmps.size = n
  df : a.defers = a0.defers
  ot : ∀ t, (∀ o ∈ l, o.dst ≠ some t) → a.tmps[t]? = a0.tmps[t]?
  fs : ∀ j o d, l[j]? = some o → o.dst = some d → listed.getD j false = true → (Fs.getD j Fct.any).p (a.eval (.tmp d)) w

theorem wp_region_facts {id : Nat} {a : Act} {w : World} {l : List Oper} (n : Nat) (dl : List (List (Nat × Option Nat))) (Fs : List Fct) (hm : P.follows .mixedOrders = true) (hk : kindF n l dl = true) (hn : a.tmps.size = n)
    (h : stepsF P Fs a w.drew l dl Fs) (hf : ∀ w', Below w.drew.heap.size w.drew w' → finF (fun a' w'' => Q .normal a' w'') w' l Fs a) : (Code.region id l.toArray true).wp P Q a w := by
  have K := kindF_spec hk
  have hlen : l.length = Fs.length := by
    clear hf hk K hn
    revert h
    generalize hF : Fs = Gs
    have : ∀ (l : List Oper) (dl : List (List (Nat × Option Nat))) (pl : List Fct), stepsF P Gs a w.drew l dl pl → l.length = pl.length := by
      intro l
      induction l with
      | nil =>
        intro dl pl h
        match dl, pl, h with
        | [], [], _ => rfl
        | [], _ :: _, h => exact h.elim
        | _ :: _, _, h => exact h.elim
      | cons o l ih =>
        intro dl pl h
        match dl, pl, h with
        | ds :: dl, p :: pl, h => simp only [List.length_cons]; rw [ih dl pl h.2]
        | [], _, h => exact h.elim
        | _ :: _, [], h => exact h.elim
    exact fun h => this l dl _ h
  have hstep : ∀ listed a' w' i, InvF n Fs l a w.drew listed a' w' → i ∈ Region.ready .any l.toArray listed → wpOp P l.toArray Q i (fun a'' w'' => InvF n Fs l a w.drew (listed.setIfInBounds i true) a'' w'') a' w' := by
    intro listed a' w' i hI hi
    obtain ⟨h0, o, ho, haf⟩ := mem_ready.1 hi
    have ho' : l[i]? = some o := by simpa using ho
    obtain ⟨ds, p, hds, hp, hst⟩ := stepsF_get h i o ho'
    have hpF : Fs.getD i Fct.any = p := by simp [hp]
    have hnew : ∀ v w'', Below w'.heap.size w' w'' → p.p v w'' → InvF n Fs l a w.drew (listed.setIfInBounds i true) (a'.put o.dst v) w'' := fun v w'' hb hpv => by
      refine ⟨by simpa using hI.ls, hI.bl.trans (hb.mono hI.bl.size), ?_, ?_, fun t ht => ?_, fun j o1 d hj hd hl => ?_⟩
      · rw [← hI.sz]; cases o.dst <;> simp [Act.put]
      · rw [← hI.df]; cases o.dst <;> simp [Act.put]
      · rw [← hI.ot t ht]
        cases hd : o.dst with
        | none => rfl
        | some d =>
          have hne : d ≠ t := fun e => ht o (List.mem_of_getElem? ho') (by rw [hd, e])
          simp [Act.put, Array.getElem?_setIfInBounds_ne hne]
      · by_cases hji : j = i
        · subst hji
          obtain rfl : o1 = o := by rw [ho'] at hj; injection hj with hj; exact hj.symm
          rw [hpF, hd]
          have hlt : d < a'.tmps.size := by rw [hI.sz]; exact K.dn j o1 d hj hd
          have : (a'.put (some d) v).eval (.tmp d) = v := by simp [Act.put, Act.eval, hlt]
          rw [this]
          exact hpv
        · have hl' : listed.getD j false = true := by rwa [getD_set_ne false (Ne.symm hji)] at hl
          have h1 := (Fs.getD j Fct.any).st (hI.fs j o1 d hj hd hl') hb
          have : (a'.put o.dst v).eval (.tmp d) = a'.eval (.tmp d) := by
            cases hd' : o.dst with
            | none => rfl
            | some d' =>
              refine Act.eval_put fun x hx e => ?_
              injection hx with hx
              injection e with e
              exact hji (K.un j o1 i o d hj ho' hd (by rw [hd', hx, e]))
          rw [this]
          exact h1
    have hlisted : ∀ j o1 d, l[j]? = some o1 → o1.dst = some d → (∃ e ∈ o.after, Region.binds .any e = true ∧ e.on = j) → (Fs.getD j Fct.any).p (a'.eval (.tmp d)) w' := fun j o1 d hj hd ⟨e, he, hb, hej⟩ =>
      hI.fs j o1 d hj hd (by rw [← hej]; exact haf e he hb)
    unfold wpOp
    simp only [ho]
    have hguard : ∀ j want b, o.guard = some (j, want) → (∀ v w, (Fs.getD j Fct.any).p v w → v = .bool b) → yielded l.toArray a'.tmps j = some b := fun j want b hg hb => by
      obtain ⟨e, he, hbd, hej, o1, d, hj, hd⟩ := K.gd i o j want ho' hg
      have h1 := hb _ _ (hlisted j o1 d hj hd ⟨e, he, hbd, hej⟩)
      have hlt : d < a'.tmps.size := by rw [hI.sz]; exact K.dn j o1 d hj hd
      unfold yielded
      have h2 : a'.tmps[d]? = some (.bool b) := by
        simp only [Act.eval, Array.getD_eq_getD_getElem?, Array.getElem?_eq_getElem hlt, Option.getD_some] at h1
        rw [Array.getElem?_eq_getElem hlt, h1]
      simp [hj, hd, h2]
    rcases hst with ⟨hg, hgo⟩ | ⟨⟨j, want, hg, hgb⟩, hundef⟩
    · have hw : Region.wanted o (yielded l.toArray a'.tmps) = true := by
        unfold Region.wanted
        cases hgd : o.guard with
        | none => rfl
        | some gw =>
          obtain ⟨j, want⟩ := gw
          simp only [hguard j want want hgd (hg j want hgd), beq_self_eq_true]
      simp only [hw, if_true]
      refine .inl (leaves_wp (hgo a' w' hI.bl (lookF_of (l := l) (o := o) ds fun t s hts => ?_)) fun v w'' ⟨hb, hpv⟩ => hnew v w'' hb hpv)
      have h3 := K.lk i o ds t s ho' hds hts
      cases s with
      | none =>
        have := hI.ot t h3
        simp only [Act.eval, Array.getD_eq_getD_getElem?, this]
      | some j =>
        obtain ⟨o1, hj, hd, he⟩ := h3
        exact hlisted j o1 t hj hd he
    · have hw : Region.wanted o (yielded l.toArray a'.tmps) = false := by
        unfold Region.wanted
        rw [hg]
        simp only [hguard j want (!want) hg hgb]
        cases want <;> rfl
      simp only [hw, Bool.false_eq_true, if_false]
      exact hnew undef w' (Below.refl _ _) (hundef w')
  refine wp_region_any hm (wpAny_inv (InvF n Fs l a w.drew) (fun _ _ _ hI => hI.ls) hstep (fun listed a' w' hI hr => ?_) (fun listed hs hc => ?_) _ _ a w.drew ?_ ⟨by simp, Below.refl _ _, hn, rfl, fun _ _ => rfl, fun j o d hj hd hl => ?_⟩)
  · have hall : ∀ j o, l[j]? = some o → listed.getD j false = true := by
      intro j
      induction j using Nat.strongRecOn with
      | _ j ih =>
        intro o hj
        cases hl : listed.getD j false with
        | true => rfl
        | false =>
          have : j ∈ Region.ready .any l.toArray listed := by
            refine mem_ready.2 ⟨?_, o, by simpa using hj, fun e he hb => ?_⟩
            · have hlt : j < listed.size := by rw [hI.ls]; simpa using (List.getElem?_eq_some_iff.1 hj).1
              simpa [hlt] using hl
            · have h1 := K.ac j o hj e he hb
              have h2 : e.on < l.length := Nat.lt_trans h1 (List.getElem?_eq_some_iff.1 hj).1
              exact ih e.on h1 _ (List.getElem?_eq_getElem h2)
          rw [hr] at this
          cases this
    refine finF_of (Fs := Fs) (Q := fun a' w'' => Q .normal a' w'') l Fs a (hf w' hI.bl) hI.df (by rw [hI.sz, hn]) hlen hI.ot fun i o p d e1 e2 e3 => ⟨by rw [hI.sz]; exact K.dn i o d e1 e3, ?_⟩
    have := hI.fs i o d e1 e3 (hall i o e1)
    simpa [e2] using this
  · refine List.eq_nil_iff_forall_not_mem.2 fun i hi => ?_
    obtain ⟨h0, o, ho, _⟩ := mem_ready.1 hi
    have hlt : i < listed.size := by rw [hs]; exact (Array.getElem?_eq_some_iff.1 ho).1
    have hf' : listed.toList[i]'(by simpa using hlt) = false := by simpa [hlt] using h0
    have : 0 < listed.toList.count false := List.count_pos_iff.2 (by rw [← hf']; exact List.getElem_mem _)
    omega
  · simp
  · exfalso
    rw [Array.getD_eq_getD_getElem?, Array.getElem?_replicate] at hl
    by_cases hj' : j < l.toArray.size
    · rw [if_pos hj'] at hl; cases hl
    · rw [if_neg hj'] at hl; cases hl

end

end Go.Proofs.YtkpkhnaflohjpaaDoor

/- A region that draws its order, whose operations make memory and call (RX), with operations behind them that wait for all ahead of them: stores. -/

namespace Go.Proofs.YtkpkhnaflohjpaaDoor

open Go Go.RowKit

/-- The operations behind the others, one after another. -/
def tailWp (P : Program) (Q : Exit → Act → World → Prop) : List Oper → Act → World → Prop
  | [], a, w => Q .normal a w
  | o :: l, a, w => o.wp P a w (tailWp P Q l) Q

def waits (o : Oper) (j : Nat) : Bool := o.after.any fun e => Region.binds .any e && e.on == j

/-- Each of the later ones waits for all ahead of it. -/
def lateF (l l2 : List Oper) : Bool :=
  l2.zipIdx.all fun (o, i) => o.guard.isNone && o.after.all (fun e => !Region.binds .any e || decide (e.on < l.length + i)) &&
    ((List.range l.length).all fun j => waits o j || l.zipIdx.any fun (o', j') => waits o j' && waits o' j) && ((List.range i).all fun k => waits o (l.length + k))

structure LateF (l l2 : List Oper) : Prop where
  gd : ∀ (i : Nat) (o : Oper), l2[i]? = some o → o.guard = none
  ac : ∀ (i : Nat) (o : Oper), l2[i]? = some o → ∀ e ∈ o.after, Region.binds .any e = true → e.on < l.length + i
  al : ∀ (i : Nat) (o : Oper), l2[i]? = some o → ∀ j, j < l.length → waits o j = true ∨ ∃ (j' : Nat) (o' : Oper), l[j']? = some o' ∧ waits o j' = true ∧ waits o' j = true
  sq : ∀ (i : Nat) (o : Oper), l2[i]? = some o → ∀ k, k < i → waits o (l.length + k) = true

theorem lateF_spec {l l2 : List Oper} (h : lateF l l2 = true) : LateF l l2 := by
  unfold lateF at h
  rw [List.all_eq_true] at h
  have hz : ∀ (i : Nat) (o : Oper), l2[i]? = some o → (o, i) ∈ l2.zipIdx := fun i o e => by
    rw [List.mem_zipIdx_iff_getElem?]; exact e
  refine ⟨fun i o e => ?_, fun i o e x hx hb => ?_, fun i o e j hj => ?_, fun i o e k hk => ?_⟩
  all_goals
    have h1 := h _ (hz i o e)
    simp only [Bool.and_eq_true] at h1
    obtain ⟨⟨⟨h1, h2⟩, h3⟩, h4⟩ := h1
  · simpa using h1
  · have := Array.all_eq_true_iff_forall_mem.1 h2 x hx
    simpa [hb] using this
  · have := List.all_eq_true.1 h3 j (List.mem_range.2 hj)
    rw [Bool.or_eq_true] at this
    rcases this with h | h
    · exact .inl h
    · obtain ⟨⟨o', j'⟩, hm, h⟩ := List.any_eq_true.1 h
      rw [List.mem_zipIdx_iff_getElem?] at hm
      simp only [Bool.and_eq_true] at h
      exact .inr ⟨j', o', hm, h.1, h.2⟩
  · exact List.all_eq_true.1 h4 k (List.mem_range.2 hk)

theorem waits_spec {o : Oper} {j : Nat} (h : waits o j = true) : ∃ e ∈ o.after, Region.binds .any e = true ∧ e.on = j := by
  obtain ⟨e, he, hb⟩ := Array.any_eq_true'.1 h
  simp only [Bool.and_eq_true, beq_iff_eq] at hb
  exact ⟨e, he, hb.1, hb.2⟩

/-- One operation, with what is said of all slots together (R). -/
def stepG (P : Program) (R : Act → World → Prop) (n : Nat) (Fs : List Fct) (a0 : Act) (W : World) (o : Oper) (ds : List (Nat × Option Nat)) (p : Fct) : Prop :=
  o.guard = none ∧ ∀ (a : Act) (w : World), Below W.heap.size W w → a.tmps.size = n → lookF Fs a0 a w ds → R a w → leaves P (fun v w' => Below w.heap.size w w' ∧ p.p v w' ∧ R (a.put o.dst v) w') ((execOp a.eval o).run P w)

def stepsG (P : Program) (R : Act → World → Prop) (n : Nat) (Fs : List Fct) (a0 : Act) (W : World) : List Oper → List (List (Nat × Option Nat)) → List Fct → Prop
  | o :: l, ds :: dl, p :: pl => stepG P R n Fs a0 W o ds p ∧ stepsG P R n Fs a0 W l dl pl
  | [], [], [] => True
  | _, _, _ => False

theorem stepsG_get {P : Program} {R : Act → World → Prop} {n : Nat} {Fs : List Fct} {a0 : Act} {W : World} : ∀ {l : List Oper} {dl : List (List (Nat × Option Nat))} {pl : List Fct}, stepsG P R n Fs a0 W l dl pl → ∀ (i : Nat) (o : Oper), l[i]? = some o → ∃ ds p, dl[i]? = some ds ∧ pl[i]? = some p ∧ stepG P R n Fs a0 W o ds p
  | o :: l, ds :: dl, p :: pl, h, 0, o', ho => by
    simp at ho
    subst ho
    exact ⟨ds, p, rfl, rfl, h.1⟩
  | o :: l, ds :: dl, p :: pl, h, i + 1, o', ho => stepsG_get h.2 i o' (by simpa using ho)
  | [], [], [], _, i, o', ho => by simp at ho
  | [], [], _ :: _, h, _, _, _ => h.elim
  | [], _ :: _, _, h, _, _, _ => h.elim
  | _ :: _, [], _, h, _, _, _ => h.elim
  | _ :: _, _ :: _, [], h, _, _, _ => h.elim

/-- What holds however far the first part is. -/
structure InvG (R : Act → World → Prop) (n : Nat) (Fs : List Fct) (l l2 : List Oper) (a0 : Act) (W : World) (listed : Array Bool) (a : Act) (w : World) : Prop where
  ls : listed.size = (l ++ l2).toArray.size
  nl : ∀ j, l.length ≤ j → listed.getD j false = false
  cl : ∀ j o, l[j]? = some o → listed.getD j false = true → ∀ e ∈ o.after, Region.binds .any e = true → listed.getD e.on false = true
  bl : Below W.heap.size W w
  sz : a.tmps.size = n
  df : a.defers = a0.defers
  ot : ∀ t, (∀ o ∈ l, o.dst ≠ some t) → a.tmps[t]? = a0.tmps[t]?
  fs : ∀ j o d, l[j]? = some o → o.dst = some d → listed.getD j false = true → (Fs.getD j Fct.any).p (a.eval (.tmp d)) w
  rr : R a w

structure InvH (P : Program) (Q : Exit → Act → World → Prop) (l l2 : List Oper) (j : Nat) (listed : Array Bool) (a : Act) (w : World) : Prop where
  ls : listed.size = (l ++ l2).toArray.size
  jl : j ≤ l2.length
  yes : ∀ i, i < l.length + j → listed.getD i false = true
  no : ∀ i, l.length + j ≤ i → listed.getD i false = false
  go : tailWp P Q (l2.drop j) a w

section

variable {P : Program} {Q : Exit → Act → World → Prop}

theorem getD_put {listed : Array Bool} {i j : Nat} (h : i < listed.size) : (listed.setIfInBounds i true).getD j false = true ↔ (j = i ∨ listed.getD j false = true) := by
  by_cases e : j = i
  · subst e; simp [h]
  · rw [getD_set_ne false (Ne.symm e)]; simp [e]

theorem wp_region_facts2 {id : Nat} {a : Act} {w : World} {l l2 : List Oper} (R : Act → World → Prop) (n : Nat) (dl : List (List (Nat × Option Nat))) (Fs : List Fct) (hm : P.follows .mixedOrders = true) (hk : kindF n l dl = true) (hL : lateF l l2 = true) (hn : a.tmps.size = n)
    (hR : R a w.drew) (h : stepsG P R n Fs a w.drew l dl Fs) (hf : ∀ w', Below w.drew.heap.size w.drew w' → finF (fun a' w'' => R a' w'' → tailWp P Q l2 a' w'') w' l Fs a) : (Code.region id (l ++ l2).toArray true).wp P Q a w := by
  have K := kindF_spec hk
  have L := lateF_spec hL
  have hlen : l.length = Fs.length := by
    have : ∀ (l : List Oper) (dl : List (List (Nat × Option Nat))) (pl : List Fct), stepsG P R n Fs a w.drew l dl pl → l.length = pl.length := by
      intro l
      induction l with
      | nil =>
        intro dl pl h
        match dl, pl, h with
        | [], [], _ => rfl
        | [], _ :: _, h => exact h.elim
        | _ :: _, _, h => exact h.elim
      | cons o l ih =>
        intro dl pl h
        match dl, pl, h with
        | ds :: dl, p :: pl, h => simp only [List.length_cons]; rw [ih dl pl h.2]
        | [], _, h => exact h.elim
        | _ :: _, [], h => exact h.elim
    exact this l dl _ h
  have hop1 : ∀ i, i < l.length → (l ++ l2).toArray[i]? = l[i]? := fun i hi => by
    rw [List.getElem?_toArray, List.getElem?_append_left hi]
  have hop2 : ∀ i, l.length ≤ i → (l ++ l2).toArray[i]? = l2[i - l.length]? := fun i hi => by
    rw [List.getElem?_toArray, List.getElem?_append_right hi]
  have htot : (l ++ l2).toArray.size = l.length + l2.length := by simp
  -- what all listed gives
  have hfinish : ∀ listed a' w', InvG R n Fs l l2 a w.drew listed a' w' → (∀ j, j < l.length → listed.getD j false = true) → tailWp P Q l2 a' w' := fun listed a' w' hI hall => by
    refine (finF_of (Fs := Fs) (Q := fun a' w'' => R a' w'' → tailWp P Q l2 a' w'') (w := w') (a := a') l Fs a (hf w' hI.bl) hI.df (by rw [hI.sz, hn]) hlen hI.ot fun i o p d e1 e2 e3 => ⟨by rw [hI.sz]; exact K.dn i o d e1 e3, ?_⟩) hI.rr
    have := hI.fs i o d e1 e3 (hall i (List.getElem?_eq_some_iff.1 e1).1)
    simpa [e2] using this
  -- a later one that is ready: it is the next one
  have htail : ∀ (j : Nat) listed a' w' i, InvH P Q l l2 j listed a' w' → i ∈ Region.ready .any (l ++ l2).toArray listed → wpOp P (l ++ l2).toArray Q i (fun a'' w'' => ∃ j', InvH P Q l l2 j' (listed.setIfInBounds i true) a'' w'') a' w' := by
    intro j listed a' w' i hI hi
    obtain ⟨h0, o, ho, haf⟩ := mem_ready.1 hi
    have hlt : i < listed.size := by rw [hI.ls]; exact (Array.getElem?_eq_some_iff.1 ho).1
    have hi0 : listed.getD i false = false := by simpa [hlt] using h0
    have hge : l.length + j ≤ i := by
      rcases Nat.lt_or_ge i (l.length + j) with h1 | h1
      · rw [hI.yes i h1] at hi0; cases hi0
      · exact h1
    have ho2 : l2[i - l.length]? = some o := by rw [← hop2 i (by omega)]; exact ho
    have heq : i = l.length + j := by
      rcases Nat.eq_or_lt_of_le hge with e | e
      · exact e.symm
      · exfalso
        obtain ⟨x, hx, hb, hon⟩ := waits_spec (L.sq (i - l.length) o ho2 j (by omega))
        have := haf x hx hb
        rw [hon, hI.no _ (Nat.le_refl _)] at this
        cases this
    subst heq
    rw [show l.length + j - l.length = j by omega] at ho2
    have hjl := (List.getElem?_eq_some_iff.1 ho2).1
    have hdrop : l2.drop j = o :: l2.drop (j + 1) := by
      rw [List.drop_eq_getElem_cons hjl]
      congr 1
      exact (List.getElem?_eq_some_iff.1 ho2).2
    have hgo := hI.go
    rw [hdrop] at hgo
    unfold wpOp
    simp only [ho]
    have hw : Region.wanted o (yielded (l ++ l2).toArray a'.tmps) = true := by
      unfold Region.wanted
      rw [L.gd j o ho2]
    simp only [hw, if_true]
    refine .inl (Oper.wp_mono (fun a'' w'' h1 => ⟨j + 1, by simpa using hI.ls, by omega, fun i' hi' => ?_, fun i' hi' => ?_, h1⟩) hgo)
    · rw [getD_put hlt]
      by_cases e : i' = l.length + j
      · exact .inl e
      · exact .inr (hI.yes i' (by omega))
    · rw [getD_set_ne false (by omega)]
      exact hI.no i' (by omega)
  have hstepA : ∀ listed a' w' i, InvG R n Fs l l2 a w.drew listed a' w' → i ∈ Region.ready .any (l ++ l2).toArray listed → i < l.length → wpOp P (l ++ l2).toArray Q i (fun a'' w'' => InvG R n Fs l l2 a w.drew (listed.setIfInBounds i true) a'' w'') a' w' := by
    intro listed a' w' i hI hi hil
    obtain ⟨h0, o, ho, haf⟩ := mem_ready.1 hi
    have ho' : l[i]? = some o := by rw [← hop1 i hil]; exact ho
    have hlt0 : i < listed.size := by rw [hI.ls, htot]; omega
    obtain ⟨ds, p, hds, hp, hst⟩ := stepsG_get h i o ho'
    have hpF : Fs.getD i Fct.any = p := by simp [hp]
    have hnew : ∀ v w'', Below w'.heap.size w' w'' → p.p v w'' → R (a'.put o.dst v) w'' → InvG R n Fs l l2 a w.drew (listed.setIfInBounds i true) (a'.put o.dst v) w'' := fun v w'' hb hpv hRv => by
      refine ⟨by simpa using hI.ls, fun j hj => ?_, fun j o1 hj hl e he hbd => ?_, hI.bl.trans (hb.mono hI.bl.size), ?_, ?_, fun t ht => ?_, fun j o1 d hj hd hl => ?_, hRv⟩
      · rw [getD_set_ne false (by omega)]; exact hI.nl j hj
      · rw [getD_put hlt0] at hl ⊢
        rcases hl with rfl | hl
        · obtain rfl : o1 = o := by rw [ho'] at hj; injection hj with hj; exact hj.symm
          exact .inr (haf e he hbd)
        · exact .inr (hI.cl j o1 hj hl e he hbd)
      · rw [← hI.sz]; cases o.dst <;> simp [Act.put]
      · rw [← hI.df]; cases o.dst <;> simp [Act.put]
      · rw [← hI.ot t ht]
        cases hd : o.dst with
        | none => rfl
        | some d =>
          have hne : d ≠ t := fun e => ht o (List.mem_of_getElem? ho') (by rw [hd, e])
          simp [Act.put, Array.getElem?_setIfInBounds_ne hne]
      · by_cases hji : j = i
        · subst hji
          obtain rfl : o1 = o := by rw [ho'] at hj; injection hj with hj; exact hj.symm
          rw [hpF, hd]
          have hlt : d < a'.tmps.size := by rw [hI.sz]; exact K.dn j o1 d hj hd
          have : (a'.put (some d) v).eval (.tmp d) = v := by simp [Act.put, Act.eval, hlt]
          rw [this]
          exact hpv
        · have hl' : listed.getD j false = true := by rwa [getD_set_ne false (Ne.symm hji)] at hl
          have h1 := (Fs.getD j Fct.any).st (hI.fs j o1 d hj hd hl') hb
          have : (a'.put o.dst v).eval (.tmp d) = a'.eval (.tmp d) := by
            cases hd' : o.dst with
            | none => rfl
            | some d' =>
              refine Act.eval_put fun x hx e => ?_
              injection hx with hx
              injection e with e
              exact hji (K.un j o1 i o d hj ho' hd (by rw [hd', hx, e]))
          rw [this]
          exact h1
    have hlisted : ∀ j o1 d, l[j]? = some o1 → o1.dst = some d → (∃ e ∈ o.after, Region.binds .any e = true ∧ e.on = j) → (Fs.getD j Fct.any).p (a'.eval (.tmp d)) w' := fun j o1 d hj hd ⟨e, he, hb, hej⟩ =>
      hI.fs j o1 d hj hd (by rw [← hej]; exact haf e he hb)
    unfold wpOp
    simp only [ho]
    obtain ⟨hgn, hgo⟩ := hst
    have hw : Region.wanted o (yielded (l ++ l2).toArray a'.tmps) = true := by
      unfold Region.wanted
      rw [hgn]
    simp only [hw, if_true]
    refine .inl (leaves_wp (hgo a' w' hI.bl hI.sz (lookF_of (l := l) (o := o) ds fun t s hts => ?_) hI.rr) fun v w'' ⟨hb, hpv, hRv⟩ => hnew v w'' hb hpv hRv)
    have h3 := K.lk i o ds t s ho' hds hts
    cases s with
    | none =>
      have := hI.ot t h3
      simp only [Act.eval, Array.getD_eq_getD_getElem?, this]
    | some j =>
      obtain ⟨o1, hj, hd, he⟩ := h3
      exact hlisted j o1 t hj hd he
  -- a later one is ready: all of the first part is listed
  have hallA : ∀ listed a' w' i, InvG R n Fs l l2 a w.drew listed a' w' → i ∈ Region.ready .any (l ++ l2).toArray listed → l.length ≤ i → ∀ j, j < l.length → listed.getD j false = true := fun listed a' w' i hI hi hge j hj => by
    obtain ⟨h0, o, ho, haf⟩ := mem_ready.1 hi
    have ho2 : l2[i - l.length]? = some o := by rw [← hop2 i hge]; exact ho
    rcases L.al _ o ho2 j hj with h1 | ⟨j', o', hj', h1, h2⟩
    · obtain ⟨e, he, hb, hon⟩ := waits_spec h1
      rw [← hon]; exact haf e he hb
    · obtain ⟨e, he, hb, hon⟩ := waits_spec h1
      obtain ⟨e2, he2, hb2, hon2⟩ := waits_spec h2
      have h3 := haf e he hb
      rw [hon] at h3
      rw [← hon2]; exact hI.cl j' o' hj' h3 e2 he2 hb2
  have hAH : ∀ listed a' w', InvG R n Fs l l2 a w.drew listed a' w' → (∀ j, j < l.length → listed.getD j false = true) → InvH P Q l l2 0 listed a' w' := fun listed a' w' hI hall =>
    ⟨hI.ls, Nat.zero_le _, fun i hi => hall i (by omega), fun i hi => hI.nl i (by omega), by rw [List.drop_zero]; exact hfinish listed a' w' hI hall⟩
  refine wp_region_any hm (wpAny_inv (fun listed a' w' => InvG R n Fs l l2 a w.drew listed a' w' ∨ ∃ j, InvH P Q l l2 j listed a' w') (fun _ _ _ hI => hI.elim (fun h => h.ls) fun ⟨_, h⟩ => h.ls) (fun listed a' w' i hI hi => ?_) (fun listed a' w' hI hr => ?_) (fun listed hs hc => ?_) _ _ a w.drew ?_ (.inl ⟨by simp, fun j hj => ?_, fun j o hj hl => ?_, Below.refl _ _, hn, rfl, fun _ _ => rfl, fun j o d hj hd hl => ?_, hR⟩))
  · rcases hI with hI | ⟨j, hI⟩
    · rcases Nat.lt_or_ge i l.length with hil | hge
      · exact wpOp_mono (fun _ _ h => .inl h) (hstepA listed a' w' i hI hi hil)
      · exact wpOp_mono (fun _ _ h => .inr h) (htail 0 listed a' w' i (hAH listed a' w' hI (hallA listed a' w' i hI hi hge)) hi)
    · exact wpOp_mono (fun _ _ h => .inr h) (htail j listed a' w' i hI hi)
  · have hH : ∃ j, InvH P Q l l2 j listed a' w' := by
      rcases hI with hI | h
      · refine ⟨0, hAH listed a' w' hI ?_⟩
        have hall : ∀ j o, l[j]? = some o → listed.getD j false = true := by
          intro j
          induction j using Nat.strongRecOn with
          | _ j ih =>
            intro o hj
            cases hl : listed.getD j false with
            | true => rfl
            | false =>
              have hjl := (List.getElem?_eq_some_iff.1 hj).1
              have : j ∈ Region.ready .any (l ++ l2).toArray listed := by
                refine mem_ready.2 ⟨?_, o, by rw [hop1 j hjl]; exact hj, fun e he hb => ?_⟩
                · have hlt : j < listed.size := by rw [hI.ls, htot]; omega
                  simpa [hlt] using hl
                · have h1 := K.ac j o hj e he hb
                  exact ih e.on h1 _ (List.getElem?_eq_getElem (by omega))
              rw [hr] at this
              cases this
        exact fun j hj => hall j _ (List.getElem?_eq_getElem hj)
      · exact h
    obtain ⟨j, hI⟩ := hH
    by_cases hjl : j < l2.length
    · exfalso
      have : l.length + j ∈ Region.ready .any (l ++ l2).toArray listed := by
        refine mem_ready.2 ⟨?_, l2[j], by rw [hop2 _ (by omega), show l.length + j - l.length = j by omega, List.getElem?_eq_getElem hjl], fun e he hb => ?_⟩
        · have hlt : l.length + j < listed.size := by rw [hI.ls, htot]; omega
          have := hI.no (l.length + j) (Nat.le_refl _)
          simpa [hlt] using this
        · exact hI.yes e.on (L.ac j _ (List.getElem?_eq_getElem hjl) e he hb)
      rw [hr] at this
      cases this
    · have hgo := hI.go
      rw [List.drop_eq_nil_of_le (by omega)] at hgo
      exact hgo
  · refine List.eq_nil_iff_forall_not_mem.2 fun i hi => ?_
    obtain ⟨h0, o, ho, _⟩ := mem_ready.1 hi
    have hlt : i < listed.size := by rw [hs]; exact (Array.getElem?_eq_some_iff.1 ho).1
    have hf' : listed.toList[i]'(by simpa using hlt) = false := by simpa [hlt] using h0
    have : 0 < listed.toList.count false := List.count_pos_iff.2 (by rw [← hf']; exact List.getElem_mem _)
    omega
  · simp
  · rw [Array.getD_eq_getD_getElem?, Array.getElem?_replicate]
    split <;> rfl
  · exfalso
    rw [Array.getD_eq_getD_getElem?, Array.getElem?_replicate] at hl
    split at hl <;> cases hl
  · exfalso
    rw [Array.getD_eq_getD_getElem?, Array.getElem?_replicate] at hl
    split at hl <;> cases hl

/-- Boxed, so that no tactic looks inside. -/
structure TailS (P : Program) (Q : Exit → Act → World → Prop) (l : List Oper) (a : Act) (w : World) : Prop where
  go : tailWp P Q l a w

structure FinS (Q : Act → World → Prop) (w : World) (l : List Oper) (pl : List Fct) (a : Act) : Prop where
  go : finF Q w l pl a

theorem finF_mono {Q Q' : Act → World → Prop} (h : ∀ a w, Q a w → Q' a w) {w : World} : ∀ (l : List Oper) (pl : List Fct) (a : Act), finF Q w l pl a → finF Q' w l pl a
  | [], pl, a, hf => by unfold finF at *; exact h _ _ hf
  | o :: l, [], a, hf => by unfold finF at *; exact h _ _ hf
  | o :: l, p :: pl, a, hf => by
    unfold finF at *
    cases hd : o.dst with
    | none => rw [hd] at hf; exact finF_mono h l pl a hf
    | some d => rw [hd] at hf; exact fun v hv => finF_mono h l pl _ (hf v hv)

/-- The same, parted at a place. -/
theorem wp_region_facts3 {id : Nat} {a : Act} {w : World} {L : List Oper} (k : Nat) (R : Act → World → Prop) (n : Nat) (dl : List (List (Nat × Option Nat))) (Fs : List Fct) (hm : P.follows .mixedOrders = true) (hk : kindF n (L.take k) dl = true) (hL : lateF (L.take k) (L.drop k) = true) (hn : a.tmps.size = n)
    (hR : R a w.drew) (h : stepsG P R n Fs a w.drew (L.take k) dl Fs) (hf : ∀ w', Below w.drew.heap.size w.drew w' → FinS (fun a' w'' => R a' w'' → TailS P Q (L.drop k) a' w'') w' (L.take k) Fs a) : (Code.region id L.toArray true).wp P Q a w := by
  have := wp_region_facts2 (id := id) R n dl Fs hm hk hL hn hR h (fun w' hb => finF_mono (fun _ _ h1 h2 => (h1 h2).go) _ _ _ (hf w' hb).go)
  rwa [List.take_append_drop] at this

end

theorem FinS.some {Q : Act → World → Prop} {w : World} {o : Oper} {l : List Oper} {p : Fct} {pl : List Fct} {a : Act} {d : Nat} (hd : o.dst = some d) (h : ∀ v, p.p v w → FinS Q w l pl (a.put (some d) v)) : FinS Q w (o :: l) (p :: pl) a :=
  ⟨by unfold finF; rw [hd]; exact fun v hv => (h v hv).go⟩

theorem FinS.nil {Q : Act → World → Prop} {w : World} {a : Act} (h : Q a w) : FinS Q w [] [] a :=
  ⟨by unfold finF; exact h⟩

end Go.Proofs.YtkpkhnaflohjpaaDoor

