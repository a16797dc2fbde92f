/- brack's order of pairs: slices.SortFunc at what was found. -/
import Derived.Test.YtpddjojgcenlkaaSortQ
import Derived.Test.YtpddjojgcenlkaaCmpI
import Derived.Shelf.Abstract
namespace Go.Proofs.Ytpddjojgcenlkaa
open Go.RowKit Go.Shelf

set_option maxRecDepth 100000 in
theorem bkCmp_any : CmpLoAtQ 15 := by
  intro x y w
  obtain ⟨a, b⟩ := x
  obtain ⟨c, d⟩ := y
  go_enter Try.func15, Try.ntmps15
  go_wp2_with (go_at_call 16; refine (cmpI_any _ _ _).mono ?_; rintro e w' ⟨rfl, rfl⟩)
  go_ret
  exact ⟨rfl, _, by rw [Sort.alloc_eq_grow, Sort.alloc_eq_grow, Sort.grow_grow]⟩
theorem egBkCmp : ∀ args w, (callFunc 15 args).run Try.prog w = .ok (.enter 15 args) w := enters_of Try.func15 (by kernel_rfl) rfl
theorem bkSort_any (o : Value) (n base : Nat) (ou : List Sp) (w : World) (h : w.ownsRow base 27 2 o n (cellsS ou)) (hn : n ≤ 1000000) :
    Calls Try.prog 14 #[o, .func (.func 15) #[] #[]] w fun e w' => e = .returned (.tuple #[]) ∧ ∃ l', List.Perm l' ou ∧ LoSorted l' ∧ w'.ownsRow base 27 2 o n (cellsS l') ∧ w.grownBy w' o.ownBlock := by
  rcases h.2 with ⟨rfl, hx⟩ | ⟨g, cap, cur, rfl, _⟩
  · have h1 := h.1
    rw [cellsS_len] at h1
    have hl : ou = [] := List.eq_nil_of_length_eq_zero (by omega)
    have hn0 : n = 0 := hx
    subst hl hn0
    refine (AnyF.slices_SortFunc_none sortQ_lays none 0 _ w).mono ?_
    rintro e w' ⟨he, rfl⟩
    exact ⟨he, [], List.Perm.refl _, by simp [LoSorted], h, World.grownBy.refl _ _⟩
  · refine (sortQ_any 15 egBkCmp bkCmp_any h (by omega)).mono ?_
    rintro e w' ⟨he, l', hp, hs, ho, hg⟩
    exact ⟨he, l', hp, hs, ho, hg⟩
end Go.Proofs.Ytpddjojgcenlkaa
