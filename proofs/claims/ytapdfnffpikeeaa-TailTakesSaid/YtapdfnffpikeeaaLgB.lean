/- forms.pick. -/
import Derived.Test.YtapdfnffpikeeaaFmD
namespace Go.Proofs.Ytapdfnffpikeeaa
open Go.RowKit
theorem pick_any (A : Option Addr) (n d : Nat) (xs : List Int) (k v : Int) (ok : Bool) (w : World) (hp : pickF k xs = (v, ok)) (hr : Rd w 1 A n (xs.map (Value.int .i64))) (hn : n ≤ 1000) :
    Calls Try.prog 24 #[.int .i64 k, .slice A n d] w fun e w' => e = .returned (.tuple #[.int .i64 v, .bool ok]) ∧ Below w.heap.size w w' := by
  have hlen : xs.length = n := by simpa using hr.len1
  have HL := Lib.hid hlen
  clear hlen
  unfold pickF at hp
  by_cases h1 : k < 0
  · rw [if_pos (.inl h1)] at hp
    injection hp with e1 e2
    subst e1 e2
    go_enter Try.func24, Try.ntmps24
    go_wp2
    go_ret2
    exact ⟨rfl, Below.refl _ _⟩
  · by_cases h2 : (n : Int) ≤ k
    · rw [if_pos (.inr (by rw [HL.out]; exact h2))] at hp
      injection hp with e1 e2
      subst e1 e2
      go_enter Try.func24, Try.ntmps24
      go_wp2
      go_ret2
      exact ⟨rfl, Below.refl _ _⟩
    · rw [if_neg (by rw [HL.out]; omega)] at hp
      obtain ⟨j, rfl⟩ : ∃ j : Nat, k = j := ⟨k.toNat, by omega⟩
      have hj : j < n := by omega
      obtain ⟨s, hsk⟩ : ∃ s, xs[j]? = some s := ⟨_, List.getElem?_eq_getElem (by rw [HL.out]; exact hj)⟩
      obtain ⟨ad, rfl, _, hc⟩ := hr.at_ hj
      have cs : w.cell? (ad.add j) = some (.int .i64 s) := hc _ (by rw [List.getElem?_map, hsk]; rfl)
      rw [Int.toNat_natCast, List.getD_eq_getElem?_getD, hsk, Option.getD_some] at hp
      injection hp with e1 e2
      subst e1
      clear hsk hc h1 h2
      by_cases hs : s = 0
      · have HE := Lib.hid (show ok = false by rw [← e2, hs]; rfl)
        subst hs
        clear e2
        go_enter Try.func24, Try.ntmps24
        go_wp2
        go_quiet (fail)
        go_wp2
        go_ret2
        exact ⟨by rw [HE.out]; rfl, drewBelow _⟩
      · have HE := Lib.hid (show ok = true by rw [← e2]; exact decide_eq_true hs)
        have g1 : (s != 0) = true := by simp [hs]
        clear e2 hs
        go_enter Try.func24, Try.ntmps24
        go_wp2
        go_quiet (fail)
        go_wp2
        go_ret2
        exact ⟨by rw [HE.out]; rfl, drewBelow _⟩
end Go.Proofs.Ytapdfnffpikeeaa
