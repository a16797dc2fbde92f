/- slices.IndexFunc and slices.ContainsFunc at []int, over whatever function value whose calls carry an invariant of the world from element to element. -/
import Derived.Test.YtflbiblkphaagaaMem
import Derived.Shelf.Abstract
namespace Go.Proofs.Ytflbiblkphaagaa
open Go.RowKit

/-- What the search leaves: none found, and the invariant behind all elements; or one found. -/
def FoundI (xs : List Int) (p : Int → Bool) (I : Nat → World → Prop) (j : Int) (w' : World) : Prop :=
  (xs.any p = false ∧ j = -1 ∧ I xs.length w') ∨ (xs.any p = true ∧ 0 ≤ j ∧ ∃ k, k ≤ xs.length ∧ I k w')
def IndexGives (xs : List Int) (p : Int → Bool) (I : Nat → World → Prop) (e : Ending) (w' : World) : Prop := ∃ j : Int, e = .returned (.int .i64 j) ∧ -1 ≤ j ∧ j ≤ 100000000 ∧ FoundI xs p I j w'

set_option maxRecDepth 100000 in
set_option maxHeartbeats 1000000 in
theorem indexFuncI_any (g : FuncId) (lb : Array Value) (eg : ∀ args w, (callFunc g args).run Try.prog w = .ok (.enter g args) w) (A : Option Addr) (n c : Nat) (xs : List Int) (p : Int → Bool) (I : Nat → World → Prop) (w : World)
    (hlen : xs.length = n) (hn : n ≤ 16777216) (h0 : I 0 w) (hrd : ∀ k W, I k W → Rd W 1 A n (xs.map (Value.int .i64)))
    (hcl : ∀ k x W, xs[k]? = some x → I k W → Calls Try.prog g (#[.int .i64 x] ++ lb) W fun e W' => e = .returned (.bool (p x)) ∧ I (k + 1) W') :
    Calls Try.prog 49 #[.slice A n c, .func (.func g) #[] lb] w (IndexGives xs p I) := by
  have HL := Lib.hid hlen
  have HC := Lib.hid hcl
  have HR := Lib.hid hrd
  clear hlen hcl hrd
  go_enter Try.func49, Try.ntmps49
  go_wp2
  go_loopw [8] (fun i wr => ∃ k : Nat, k ≤ n ∧ i = .int .i64 k ∧ I k wr ∧ (xs.take k).any p = false) (fun i _ => n - (intOf i).toNat)
  case atStart => exact ⟨0, Nat.zero_le _, rfl, h0, by simp⟩
  case round =>
    obtain ⟨k, hk, rfl, hI, hany⟩ := hrel
    have HA := Lib.hid hany
    clear hany
    by_cases hlt : k < n
    · obtain ⟨x, hxk⟩ : ∃ x, xs[k]? = some x := ⟨_, List.getElem?_eq_getElem (by rw [HL.out]; exact hlt)⟩
      obtain ⟨ad, rfl, _, hcells⟩ := (HR.out k wr hI).2 (by omega)
      have hcx : wr.cell? (ad.add k) = some (.int .i64 x) := hcells k _ (by rw [List.getElem?_map, hxk]; rfl)
      have hcall := HC.out k x wr hxk hI
      have HX := Lib.hid hxk
      clear hxk hcells
      have HT := Lib.hid (show (xs.take (k + 1)).any p = p x by rw [List.take_add_one, HX.out, List.any_append, HA.out]; simp)
      cases hp : p x with
      | true =>
        rw [hp] at hcall HT
        have HT2 := Lib.hid (show xs.any p = true from List.any_eq_true.2 ⟨x, List.mem_of_getElem? HX.out, hp⟩)
        go_wp2_with (go_at_fn g; refine hcall.mono ?_; rintro e w' ⟨rfl, hI'⟩)
        go_ret
        exact ⟨k, rfl, by omega, by omega, .inr ⟨HT2.out, by omega, k + 1, by rw [HL.out]; omega, hI'⟩⟩
      | false =>
        rw [hp] at hcall HT
        go_wp2_with (go_at_fn g; refine hcall.mono ?_; rintro e w' ⟨rfl, hI'⟩)
        go_roundw
        case rel => exact ⟨k + 1, by omega, by go_num, hI', HT.out⟩
        case measure => simp [intOf]; omega
    · have hkn : k = n := by omega
      have HT := Lib.hid (show xs.any p = false by have := HA.out; rwa [List.take_of_length_le (by rw [HL.out]; omega)] at this)
      have HI := Lib.hid (show I xs.length wr by rw [HL.out, ← hkn]; exact hI)
      clear hkn
      go_wp2
      go_ret
      exact ⟨-1, rfl, by omega, by omega, .inl ⟨HT.out, rfl, HI.out⟩⟩

def ContainsGives (xs : List Int) (p : Int → Bool) (I : Nat → World → Prop) (e : Ending) (w' : World) : Prop :=
  e = .returned (.bool (xs.any p)) ∧ ((xs.any p = false ∧ I xs.length w') ∨ (xs.any p = true ∧ ∃ k, k ≤ xs.length ∧ I k w'))

theorem containsFuncI_any (g : FuncId) (lb : Array Value) (eg : ∀ args w, (callFunc g args).run Try.prog w = .ok (.enter g args) w) (A : Option Addr) (n c : Nat) (xs : List Int) (p : Int → Bool) (I : Nat → World → Prop) (w : World)
    (hlen : xs.length = n) (hn : n ≤ 16777216) (h0 : I 0 w) (hrd : ∀ k W, I k W → Rd W 1 A n (xs.map (Value.int .i64)))
    (hcl : ∀ k x W, xs[k]? = some x → I k W → Calls Try.prog g (#[.int .i64 x] ++ lb) W fun e W' => e = .returned (.bool (p x)) ∧ I (k + 1) W') :
    Calls Try.prog 35 #[.slice A n c, .func (.func g) #[] lb] w (ContainsGives xs p I) := by
  have C := Lib.hid (indexFuncI_any g lb eg A n c xs p I w hlen hn h0 hrd hcl)
  clear hlen hcl hrd h0
  go_enter Try.func35, Try.ntmps35
  go_wp2_with fail
  refine C.out.mono ?_
  rintro e w' ⟨j, rfl, hj1, hj2, hF⟩
  rcases hF with ⟨ha, hj, hI⟩ | ⟨ha, hj, hI⟩
  · have HA := Lib.hid ha
    have HI := Lib.hid hI
    clear ha hI
    subst hj
    go_wp2
    go_ret
    exact ⟨retB (by simp [HA.out]), .inl ⟨HA.out, HI.out⟩⟩
  · have HA := Lib.hid ha
    have HI := Lib.hid hI
    clear ha hI
    go_wp2
    go_ret
    exact ⟨retB (by simp [HA.out]), .inr ⟨HA.out, HI.out⟩⟩
end Go.Proofs.Ytflbiblkphaagaa
