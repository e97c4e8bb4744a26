/- The calls whose answers the document fixes. -/
import Derived.Test.YtmcdnjhdmifpeaaDoorW13
namespace Go.Proofs.YtmcdnjhdmifpeaaDoor
open Go.RowKit

def fSm : Sm := ⟨⟨#[102]⟩, 2, false⟩
theorem fSm_ok : fSm.Ok := ⟨by decide, by decide, by decide⟩
theorem head_add : addE [truthSm] [fSm] = 0 := by decide +kernel
theorem head_all : addAll [truthSm] [fSm] = [truthSm, fSm] := by decide +kernel
theorem head_at : atI [truthSm, fSm] fSm = 1 := by decide +kernel
theorem check_nil : checkI [] = 110 := rfl

def HeadPost (w : World) (e : Ending) (w' : World) : Prop := ∃ A c, e = .returned (.tuple #[.agg #[.slice A 2 c], .int .i64 0]) ∧ Syms w' w'.heap.size A 2 [truthSm, fSm] ∧ Below w.heap.size w w'
theorem head_adds (A : Option Addr) (c : Nat) (w : World) (ht : tru w) (h : Syms w w.heap.size A 1 [truthSm]) :
    Calls Tryd.prog 19 #[.agg #[.slice A 1 c], .slice (some ⟨w.heap.size, 0, none⟩) 1 1] (w.alloc (.cells #[.string fSm.name, .int .i64 fSm.arity, .bool fSm.pred] 33)) (HeadPost (w.alloc (.cells #[.string fSm.name, .int .i64 fSm.arity, .bool fSm.pred] 33))) := by
  have hb : Below w.heap.size w (w.alloc (.cells #[.string fSm.name, .int .i64 fSm.arity, .bool fSm.pred] 33)) := (Below.refl _ _).alloc (Nat.le_refl _) _
  refine (Add_any A (some ⟨w.heap.size, 0, none⟩) 1 1 c 1 [truthSm] [fSm] _ (h.on hb) ?_ (by decide) (by decide) (tru_below ht hb)).mono ?_
  · have := syms_one w fSm fSm_ok 33
    rwa [← World.size_alloc w (.cells #[.string fSm.name, .int .i64 fSm.arity, .bool fSm.pred] 33)] at this
  · rintro e w2 ⟨v2, rfl, hs, hb2⟩
    rw [addL_ok head_add, head_all] at hs
    obtain ⟨A2, c2, rfl, hs2⟩ := hs
    exact ⟨A2, c2, by rw [head_add]; rfl, hs2, hb2⟩
def FindPost (w : World) (e : Ending) (w' : World) : Prop := e = .returned (.tuple #[.int .i64 1, .bool true]) ∧ Below w.heap.size w w'
theorem head_find (A : Option Addr) (c : Nat) (w : World) (h : Syms w w.heap.size A 2 [truthSm, fSm]) :
    Calls Tryd.prog 16 #[.agg #[.slice A 2 c], .agg #[.string fSm.name, .int .i64 fSm.arity, .bool fSm.pred]] w (FindPost w) :=
  (Find_any A 2 c _ fSm w h (by decide)).mono fun e w' ⟨he, hb⟩ => ⟨by rw [he]; exact ret_ib (by simp [findN, head_at]) (by simp [findB, head_at]), hb⟩
def NilPost (w : World) (e : Ending) (w' : World) : Prop := e = .returned (.int .i64 110) ∧ Below w.heap.size w w'
theorem head_nil (w : World) (ht : tru w) : Calls Tryd.prog 9 #[.agg #[.slice none 0 0]] w (NilPost w) :=
  (Check_any none 0 0 [] w (Syms.nil_ _ _ _) (by decide) ht).mono fun e w' ⟨he, hb⟩ => ⟨by rw [he, check_nil], hb⟩

set_option maxRecDepth 100000 in
set_option maxHeartbeats 1000000 in
theorem head_any (w : World) (ht : tru w) : Calls Tryd.prog 8 #[] w fun e w' => e = .returned (.bool true) ∧ Below w.heap.size w w' := by
  have Ht := Lib.hid ht
  clear ht
  go_enter Tryd.func8, Tryd.ntmps8
  go_wp2_with (first
    | (go_at_call 14; refine (New_any w Ht.out).mono ?_; rintro e w1 ⟨v1, rfl, ⟨A1, c1, rfl, hs1⟩, hb1⟩)
    | (go_at_call 19; refine (head_adds A1 c1 w1 (tru_below Ht.out hb1) hs1).mono ?_; rintro e w2 ⟨A2, c2, rfl, hs2, hb2⟩; have hbx : Below w2.heap.size w2 (w2.alloc (.cells #[.slice A2 2 c2] 24)) := (Below.refl _ _).alloc (Nat.le_refl _) _; have hB2 : Below w.heap.size w w2 := bl_step (bl_step hb1 ((Below.refl _ _).alloc (Nat.le_refl _) _)) hb2)
    | (go_at_call 16; refine (head_find A2 c2 _ (hs2.on hbx)).mono ?_; rintro e w3 ⟨rfl, hb3⟩; have z1 := cell_on hb3 (b := w2.heap.size) (o := 0) (v := .slice A2 2 c2) (by simp) (by go_simp); have hB3 : Below w.heap.size w w3 := bl_step (bl_step hB2 hbx) hb3)
    | (go_at_call 9; refine (head_nil w3 (tru_below Ht.out hB3)).mono ?_; rintro e w4 ⟨rfl, hb4⟩; have hB4 := bl_step hB3 hb4)
    | fail)
  go_ret
  exact ⟨rfl, hB4⟩
end Go.Proofs.YtmcdnjhdmifpeaaDoor
