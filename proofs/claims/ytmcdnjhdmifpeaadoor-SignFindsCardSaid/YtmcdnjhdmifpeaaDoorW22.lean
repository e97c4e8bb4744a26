/- SignFresh: the law's call answers true. -/
import Derived.Test.YtmcdnjhdmifpeaaDoorW14
import Derived.Test.YtmcdnjhdmifpeaaDoorW21
import Derived.Deep.DeepCutAuto
namespace Go.Proofs.YtmcdnjhdmifpeaaDoor
open Go.RowKit

/-- A symbol's three cells. -/
structure Sym3 (w : World) (b : Nat) (s : Sm) : Prop where
  k0 : w.cell? ⟨b, 0, none⟩ = some (.string s.name)
  k1 : w.cell? ⟨b, 1, none⟩ = some (.int .i64 s.arity)
  k2 : w.cell? ⟨b, 2, none⟩ = some (.bool s.pred)
theorem Sym3.on {B : Nat} {W w1 : World} {b : Nat} {s : Sm} (h : Sym3 W b s) (hb : Below B W w1) (hlt : b < B) : Sym3 w1 b s :=
  ⟨cell_on hb hlt h.k0, cell_on hb hlt h.k1, cell_on hb hlt h.k2⟩
theorem Sym3.new (w : World) (s : Sm) : Sym3 (w.alloc (.cells #[.string s.name, .int .i64 s.arity, .bool s.pred] 33)) w.heap.size s := by
  constructor <;> go_simp
theorem Sym3.set {w : World} {b : Nat} (h : Res w b) (s : Sm) : Sym3 (((w.setCell ⟨b, 0, none⟩ (.string s.name)).setCell ⟨b, 1, none⟩ (.int .i64 s.arity)).setCell ⟨b, 2, none⟩ (.bool s.pred)) b s := by
  obtain ⟨q0, q1, q2, _, _, _⟩ := h
  constructor <;> simp [go_sem, q0, q1, q2]
theorem Below.set3 {B : Nat} {W w : World} {b : Nat} (h : Below B W w) (hb : B ≤ b) (u0 u1 u2 : Value) : Below B W (((w.setCell ⟨b, 0, none⟩ u0).setCell ⟨b, 1, none⟩ u1).setCell ⟨b, 2, none⟩ u2) :=
  ((h.setCell hb _).setCell hb _).setCell hb _
/-- What the first statement leaves. -/
structure FrMid (w : World) (A : Option Addr) (n c : Nat) (x s : Sm) (bb : Nat) (wx : World) : Prop where
  below : Below w.heap.size w wx
  lo : w.heap.size + 1 < bb
  hi : bb < wx.heap.size
  x1 : wx.cell? ⟨w.heap.size, 0, none⟩ = some (.slice A n c)
  y : Sym3 wx (w.heap.size + 1) x
  k : Sym3 wx bb s
theorem FrMid.of {w W wx : World} {A : Option Addr} {n c : Nat} {x s : Sm} {bb : Nat} (hWB : Below w.heap.size w W) (hz : w.heap.size + 1 < W.heap.size) (x1 : W.cell? ⟨w.heap.size, 0, none⟩ = some (.slice A n c)) (y : Sym3 W (w.heap.size + 1) x)
    (hB : Below W.heap.size W wx) (hlo : W.heap.size ≤ bb) (k : Sym3 wx bb s) : FrMid w A n c x s bb wx :=
  ⟨hWB.trans (hB.mono (by omega)), by omega, cell_lt k.k0, cell_on hB (by omega) x1, y.on hB hz, k⟩

set_option maxRecDepth 100000 in
set_option maxHeartbeats 4000000 in
theorem SignFresh_any (A : Option Addr) (n c : Nat) (l : List Sm) (x : Sm) (w : World) (h : Syms w w.heap.size A n l) (hn : n * 32 ≤ 140737488351232) (hx : x.Ok) (ht : tru w) :
    Calls Tryd.prog 6 #[.agg #[.slice A n c], .agg #[.string x.name, .int .i64 x.arity, .bool x.pred]] w fun e w' => e = .returned (.bool true) ∧ Below w.heap.size w w' := by
  go_enter Tryd.func6, Tryd.ntmps6
  go_upto_region 1 with fail
  go_cut [5, 6] (fun s5 s6 wx => ∃ bb : Nat, s5 = .pointer (some ⟨bb, 0, none⟩) ∧ s6 = .int .i64 (freshE l x.name x.arity) ∧ FrMid w A n c x (freshS l x.name x.arity x.pred) bb wx)
  case first =>
    obtain ⟨W, hW⟩ : ∃ W, (w.alloc (.cells #[.slice A n c] 24)).alloc (.cells #[.string x.name, .int .i64 x.arity, .bool x.pred] 33) = W := ⟨_, rfl⟩
    have hWB : Below w.heap.size w W := by rw [← hW]; exact ((Below.refl _ _).alloc (Nat.le_refl _) _).alloc (by simp) _
    have hz : w.heap.size + 1 < W.heap.size := by rw [← hW]; clear hW; simp
    have x1 : W.cell? ⟨w.heap.size, 0, none⟩ = some (.slice A n c) := by rw [← hW]; clear hW; go_simp
    have y0 : W.cell? ⟨w.heap.size + 1, 0, none⟩ = some (.string x.name) := by rw [← hW]; clear hW; go_simp
    have y1 : W.cell? ⟨w.heap.size + 1, 1, none⟩ = some (.int .i64 x.arity) := by rw [← hW]; clear hW; go_simp
    have y2 : W.cell? ⟨w.heap.size + 1, 2, none⟩ = some (.bool x.pred) := by rw [← hW]; clear hW; go_simp
    rw [hW]
    have g := Lib.hid (h.on hWB)
    have Ht := Lib.hid (tru_below ht hWB)
    clear hW h ht
    have hz' : w.heap.size < W.heap.size := by omega
    have hsz := hx.size
    have hD : Below W.heap.size W W.drew := (Below.refl _ _).drew
    have hDZ : Below W.heap.size W (W.drew.alloc (.cells #[.string ⟨#[]⟩, .int .i64 0, .bool false] 33)) := hD.alloc (Nat.le_refl _) _
    have hZ : Res (W.drew.alloc (.cells #[.string ⟨#[]⟩, .int .i64 0, .bool false] 33)) W.heap.size := by constructor <;> go_simp
    have hS : ∀ w', Below W.heap.size W w' → w'.cell? ⟨w.heap.size, 0, none⟩ = some (.slice A n c) ∧ w'.cell? ⟨w.heap.size + 1, 0, none⟩ = some (.string x.name) ∧ w'.cell? ⟨w.heap.size + 1, 1, none⟩ = some (.int .i64 x.arity) ∧ w'.cell? ⟨w.heap.size + 1, 2, none⟩ = some (.bool x.pred) := fun w' hb => ⟨cell_on hb hz' x1, cell_on hb hz y0, cell_on hb hz y1, cell_on hb hz y2⟩
    go_region_held3 (fun w' => w'.cell? ⟨w.heap.size, 0, none⟩ = some (.slice A n c) ∧ w'.cell? ⟨w.heap.size + 1, 0, none⟩ = some (.string x.name) ∧ w'.cell? ⟨w.heap.size + 1, 1, none⟩ = some (.int .i64 x.arity) ∧ w'.cell? ⟨w.heap.size + 1, 2, none⟩ = some (.bool x.pred))
      (first | exact ⟨x1, y0, y1, y2⟩ | exact hS _ hB2 | exact hS _ hB1 | exact hS _ hDZ | exact hS _ (hB2.alloc hB2.size _) | exact hS _ (hB1.alloc hB1.size _) | exact hS _ (((hB2.setCell (by first | exact Nat.le_refl _ | exact hB1.size) _).setCell (by first | exact Nat.le_refl _ | exact hB1.size) _).setCell (by first | exact Nat.le_refl _ | exact hB1.size) _))
      (first
        | (go_at_call 10; refine (Copy_any _ _ _ l W.drew (g.out.drewN 1) hn).mono ?_; rintro e w1 ⟨v1, rfl, ⟨A1, c1, rfl, hs1⟩, hb1⟩; have hB1 := bl_step hD hb1)
        | (go_at_call 10; refine (Copy_any _ _ _ l (W.drew.alloc _) (g.out.on hDZ) hn).mono ?_; rintro e w1 ⟨v1, rfl, ⟨A1, c1, rfl, hs1⟩, hb1⟩; have hB1 := bl_step hDZ hb1; have hr1 := hZ.on hb1 (by simp))
        | (go_at_call 21; refine (Fresh_any A1 _ c1 l x.name x.arity x.pred (w1.alloc _) (hs1.on ((Below.refl _ _).alloc (Nat.le_refl _) _)) (by rw [g.out.len]; exact hn) hsz (tru_below Ht.out (hB1.alloc hB1.size _))).mono ?_; rintro e w2 ⟨rfl, hb2⟩; have hB2 := bl_step (hB1.alloc hB1.size _) hb2; have hr2 : Res w2 w1.heap.size := Res.on (by constructor <;> go_simp) hb2 (by simp); obtain ⟨q0, q1, q2, g0, g1, g2⟩ := hr2)
        | (go_at_call 21; refine (Fresh_any A1 _ c1 l x.name x.arity x.pred _ hs1 (by rw [g.out.len]; exact hn) hsz (tru_below Ht.out hB1)).mono ?_; rintro e w2 ⟨rfl, hb2⟩; have hB2 := bl_step hB1 hb2; have hr2 := hr1.on hb2 (by have h7 := hb1.size; simp at h7; omega); obtain ⟨q0, q1, q2, g0, g1, g2⟩ := hr2)
        | (go_at_call 21; refine (Fresh_any A1 _ c1 l x.name x.arity x.pred _ hs1 (by rw [g.out.len]; exact hn) hsz (tru_below Ht.out hB1)).mono ?_; rintro e w2 ⟨rfl, hb2⟩; have hB2 := bl_step hB1 hb2))
    all_goals (go_wp2_with fail; go_meet)
    · exact ⟨_, rfl, rfl, FrMid.of hWB hz x1 ⟨y0, y1, y2⟩ (hB2.alloc hB2.size _) hB2.size (Sym3.new _ _)⟩
    · exact ⟨_, rfl, rfl, FrMid.of hWB hz x1 ⟨y0, y1, y2⟩ (Below.set3 hB2 hB1.size _ _ _) hB1.size (Sym3.set ⟨q0, q1, q2, g0, g1, g2⟩ _)⟩
    · exact ⟨_, rfl, rfl, FrMid.of hWB hz x1 ⟨y0, y1, y2⟩ (Below.set3 hB2 (Nat.le_refl _) _ _ _) (Nat.le_refl _) (Sym3.set ⟨q0, q1, q2, g0, g1, g2⟩ _)⟩
  case rest =>
    obtain ⟨bb, rfl, rfl, ⟨mb, mlo, mhi, x1, ⟨y0, y1, y2⟩, mk⟩⟩ := hcut
    have heql := run_eql_sym
    go_wp2_with (first
      | (go_at_call 22
         refine (refFresh_any A n c l x _ (h.on mb) hn hx).mono ?_
         rintro e w3 ⟨rfl, hb3⟩
         have mB3 := bl_step mb hb3
         have mk3 := mk.on hb3 mhi
         have hlt3 : bb < w3.heap.size := cell_lt mk3.k0
         have hZ3 : Below w3.heap.size w3 (w3.alloc (.cells #[.string (freshS l x.name x.arity x.pred).name, .int .i64 (freshS l x.name x.arity x.pred).arity, .bool (freshS l x.name x.arity x.pred).pred] 33)) := (Below.refl _ _).alloc (Nat.le_refl _) _)
      | (go_at_call 8
         refine (head_any _ (tru_below ht (bl_step mB3 hZ3))).mono ?_
         rintro e w4 ⟨rfl, hb4⟩
         obtain ⟨a0, a1, a2⟩ := (mk3.on hZ3 hlt3).on hb4 (by simp; omega)
         obtain ⟨b0, b1, b2⟩ := (Sym3.new w3 (freshS l x.name x.arity x.pred)).on hb4 (by simp)
         have mB4 := bl_step (bl_step mB3 hZ3) hb4)
      | fail)
    go_ret
    exact ⟨by have := smB_true (rfl : freshS l x.name x.arity x.pred = freshS l x.name x.arity x.pred); simp [this], mB4⟩
end Go.Proofs.YtmcdnjhdmifpeaaDoor
