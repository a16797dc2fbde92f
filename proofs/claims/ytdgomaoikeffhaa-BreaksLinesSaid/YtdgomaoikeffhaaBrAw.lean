/- naskhlaw28.awake. -/
import Derived.Deep.RegionHeld3
import Derived.Test.YtdgomaoikeffhaaBrP2
import Derived.Test.YtdgomaoikeffhaaEq
namespace Go.Proofs.Ytdgomaoikeffhaa
open Go.RowKit

theorem own_sz {w : World} {base : Nat} {e : TypeId} {size : Nat} {v : Value} {n : Nat} {xs : List Value} (h : w.ownsRow base e size v n xs) (hn : 0 < n) :
    ∃ g c, v = .slice (some ⟨g, 0, none⟩) n c ∧ n ≤ c ∧ g < w.heap.size ∧ base ≤ g ∧ True := by
  obtain ⟨g, c, hv, hbg, hlt⟩ := h.form hn
  obtain ⟨_, _, e, hnc⟩ := own_form h
  subst hv
  injection e with _ _ e
  subst e
  exact ⟨g, c, rfl, hnc, hlt, hbg, trivial⟩
theorem br_split22 : splitF 5 [2, 2] = ([], 4) := by decide +kernel
set_option maxRecDepth 100000 in
set_option maxHeartbeats 2000000 in
theorem awakeBr_any (w : World) : Calls Try.prog 11 #[] w fun e w' => e = .returned (.bool true) ∧ Below w.heap.size w w' := by
  have HI := Lib.hid (prIdentity_any 3 w (by omega))
  rw [show ((3 : Nat) : Int) = 3 from rfl] at HI
  have HT := Lib.hid brThrough_one
  have HC := Lib.hid (fun W => brCheck_any 5 (some ⟨W.heap.size, 0, none⟩) 2 2 [2, 2] (W.alloc (.cells #[.int .i64 2, .int .i64 2] 3)) (Rd.new_ W [.int .i64 2, .int .i64 2] _) (by omega))
  rw [br_split22] at HC
  have HE : Hid (∀ (W : World) (A : Option Addr) (c : Nat), Rd W 1 A 1 (([2] : List Int).map (Value.int .i64)) → Calls Try.prog 8 #[.slice A 1 c, .slice (some ⟨W.heap.size + 1, 0, none⟩) 1 1] ((W.alloc (.cells #[.int .i64 2, .int .i64 2] 3)).alloc (.cells #[.int .i64 2] 3)) fun e w' => e = .returned (.bool true) ∧ Below W.heap.size W w') := Lib.hid (fun W A c h => by
    have h2 := Rd.new_ (W.alloc (.cells #[.int .i64 2, .int .i64 2] 3)) [.int .i64 2] 3
    rw [World.size_alloc] at h2
    refine (equalInt_b A (some ⟨W.heap.size + 1, 0, none⟩) 1 1 c 1 [2] [2] _ ((h.alloc _).alloc _) h2 (by unfold maxLen; omega) (by unfold maxLen; omega)).mono ?_
    rintro e w5 ⟨rfl, hb5⟩
    exact ⟨rfl, below_self (below_new W _) (below_self (below_new _ _) hb5)⟩)
  go_enter Try.func11, Try.ntmps11
  go_wp2_with (first
    | (go_at_call 26; refine HI.out.mono ?_; rintro e w1 ⟨v1, rfl, hv1, hb1⟩; obtain ⟨g1, c1, he1, hc1, hl1, hg1, -⟩ := own_sz hv1 (by omega); subst he1; have HR1 := Lib.hid (Rd.of_own hv1); have HB1 := Lib.hid hb1; clear hv1 hb1)
    | (go_at_call 25; with_reducible refine (HT.out g1 c1 ⟨w1.heap.size, 0, none⟩ (w1.alloc (.cells #[.int .i64 2] 3)) (HR1.out.alloc _) hc1 (Rd.new_ w1 [.int .i64 2] _)).mono ?_; rintro e w2 ⟨v2, rfl, hv2, hb2⟩; obtain ⟨A2, c2, he2, _⟩ := own_form hv2; subst he2; have HR2 := Lib.hid (Rd.of_own hv2); have HB2 := Lib.hid (below_self HB1.out (below_self (below_new w1 _) hb2)); clear hv2 hb2)
    | (go_at_call 14; with_reducible refine (HC.out _).mono ?_; rintro e w3 ⟨rfl, rfl⟩)
    | (go_at_call 8; with_reducible refine (HE.out w2 A2 c2 HR2.out).mono ?_; rintro e w5 ⟨rfl, hb5⟩; have HB5 := Lib.hid (HB2.out.trans (hb5.mono HB2.out.size)); clear hb5)
    | fail)
  go_ret
  exact ⟨rfl, HB5.out⟩
end Go.Proofs.Ytdgomaoikeffhaa
