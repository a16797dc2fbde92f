/- mirror's look, each, Codes, Count, walked. -/
import Derived.BigQuiet
import Derived.Shelf.Abstract
import Derived.Laws.BitsAllLaws
import Derived.Test.YtbnjflkafdkcpaaMrM
import Derived.Test.YtbnjflkafdkcpaaRmC
import Derived.Test.YtbnjflkafdkcpaaAnd1
namespace Go.Proofs.Ytbnjflkafdkcpaa
open Go.RowKit

theorem mrLook_any (m n : Nat) (c : Int) (w : World) (h : MirAt w m n) (hc : (Lit.int .i64 c).wf = true) (hn : n ≤ 100000) :
    Calls Try.prog 41 #[.map (some m), .int .i64 c] w fun e w' => e = .returned (.int .i64 (mirF c)) ∧ MirAt w' m (n + 1) ∧ Kept w w' [m] := by
  obtain ⟨a, b, hlk, hab⟩ := h.look hc
  have H := Lib.hid h
  have HC := Lib.hid hc
  have HMI := Lib.hid (fun W => prMirror_any c W)
  cases b with
  | true =>
    have HA := Lib.hid (hab rfl)
    have HM1 : Hid (MirAt w m (n + 1)) := Lib.hid (by
      obtain ⟨D, h1, h2⟩ := h
      exact ⟨D, h1.mono (Nat.le_succ n), h2⟩)
    clear h hab hc
    go_enter Try.func41, Try.ntmps41
    go_wp2_with fail
    go_ret
    exact ⟨by rw [HA.out]; rfl, HM1.out, Kept.refl _ _⟩
  | false =>
    clear h hab hc
    obtain ⟨v, hv⟩ : ∃ v, mirF c = v := ⟨_, rfl⟩
    have HV := Lib.hid hv
    rw [hv] at HMI
    clear hv
    go_enter Try.func41, Try.ntmps41
    go_wp2_with (first
      | (go_at_call 43; refine (HMI.out _).mono ?_; rintro e w1 ⟨rfl, hb1⟩; have HB1 := Lib.hid hb1; obtain ⟨W, hst, hmW, htu⟩ := (H.out.low hb1).store HC.out hn; rw [HV.out] at hst; have HMW := Lib.hid hmW; have HK := Lib.hid (kept_turnedC htu); clear hmW htu hb1)
      | fail)
    go_ret
    exact ⟨by rw [HV.out]; rfl, HMW.out, (Kept.of_below HB1.out [m]).trans HK.out⟩
end Go.Proofs.Ytbnjflkafdkcpaa
