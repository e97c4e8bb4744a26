/- SignKeeps: the law's call answers true. -/
import Derived.Test.YtmcdnjhdmifpeaaDoorW25
namespace Go.Proofs.YtmcdnjhdmifpeaaDoor
open Go.RowKit

theorem SignKeeps_any (A A' : Option Addr) (n n' c c' : Nat) (l m : List Sm) (w : World) (h : Syms w w.heap.size A n l) (hm : Syms w w.heap.size A' n' m) (hn : n * 32 ≤ 140737488351232) (hn' : n' * 32 ≤ 140737488351232) (ht : tru w) :
    Calls Tryd.prog 7 #[.agg #[.slice A n c], .slice A' n' c'] w fun e w' => e = .returned (.bool true) ∧ Below w.heap.size w w' := by
  by_cases he : addE l m = 0
  · obtain ⟨h1, h2, h3⟩ := add_again he
    exact Keeps_ok A A' n n' c c' l m (addL l m) (addL l m).length w h hm hn hn' ht rfl (good_of_check h3).len ⟨he, rfl⟩ ⟨h1, h2⟩ h3 (fun i x hx => find_old he hx) (fun x hx => find_new he hx) (fun y hy => fresh_err he hy)
      (fun y _ hf h96 => fresh_add he hf h96)
  · exact Keeps_err A A' n n' c c' l m w h hm hn hn' ht (addE l m) rfl (by simp [he])
end Go.Proofs.YtmcdnjhdmifpeaaDoor
