/- Texts of one claim, one behind the other. -/
import Derived.Test.YtdgomaoikeffhaaGreatMgAp13
import Derived.Test.YtdgomaoikeffhaaGreatMgAp14
import Derived.Test.YtdgomaoikeffhaaGreatMgAp18
import Derived.Test.YtdgomaoikeffhaaGreatMgAp28
/- neutral's resolve, walked. -/
namespace Go.Proofs.YtdgomaoikeffhaaGreat
open Go.RowKit

/-- What becomes of the classes of a sequence by all rules. -/
def resV (lev sos eos : Int) (xs bf : List Int) : List Int := nu2 lev (nu1 (sideF sos) eos (n0F bf lev sos (wAll sos bf) (bkF xs (wAll sos bf))))
set_option maxRecDepth 100000 in
set_option maxHeartbeats 1500000 in
theorem nuResolve_any (V A B : Option Addr) (vn vc m c d : Nat) (lev sos eos : Int) (xs bf : List Int) (w : World) (hsos : carF sos = sos) (hr : Rd w 1 A m (xs.map (Value.int .i64))) (hs : Rd w 1 B m (bf.map (Value.int .i64))) (hm : m ≤ 1000) :
    Calls Tryz.prog 26 #[.agg #[.slice V vn vc, .int .i64 lev, .int .i64 sos, .int .i64 eos], .slice A m c, .slice B m d] w fun e w' => ∃ v, e = .returned v ∧ w'.ownsRow w.heap.size 3 1 v m ((resV lev sos eos xs bf).map (Value.int .i64)) ∧ Below w.heap.size w w' := by
  have hbx := heap_alloc_new w (.cells #[.slice V vn vc, .int .i64 lev, .int .i64 sos, .int .i64 eos] 61)
  have hb0 := below_new w (.cells #[.slice V vn vc, .int .i64 lev, .int .i64 sos, .int .i64 eos] 61)
  obtain ⟨W, hW⟩ : ∃ W, w.alloc (.cells #[.slice V vn vc, .int .i64 lev, .int .i64 sos, .int .i64 eos] 61) = W := ⟨_, rfl⟩
  rw [hW] at hbx hb0
  obtain ⟨bx, hbe⟩ : ∃ bx, w.heap.size = bx := ⟨_, rfl⟩
  rw [hbe] at hbx
  have c1 : W.cell? ⟨bx, 1, none⟩ = some (.int .i64 lev) := hp_cell (j := 1) hbx rfl
  have c2 : W.cell? ⟨bx, 2, none⟩ = some (.int .i64 sos) := hp_cell (j := 2) hbx rfl
  have c3 : W.cell? ⟨bx, 3, none⟩ = some (.int .i64 eos) := hp_cell (j := 3) hbx rfl
  obtain ⟨l1, hl1⟩ : ∃ l1, wAll sos bf = l1 := ⟨_, rfl⟩
  obtain ⟨l2, hl2⟩ : ∃ l2, n0F bf lev sos l1 (bkF xs l1) = l2 := ⟨_, rfl⟩
  obtain ⟨l3, hl3⟩ : ∃ l3, nu1 (sideF sos) eos l2 = l3 := ⟨_, rfl⟩
  have HV := Lib.hid (show resV lev sos eos xs bf = nu2 lev l3 by unfold resV; rw [hl1, hl2, hl3])
  have HA := Lib.hid (wkAll_any B m d bf l1 sos W hsos hl1 (hs.below hb0) hm)
  have HN := Lib.hid (fun W' C c' (hr1 : Rd W' 1 A m (xs.map (Value.int .i64))) (hr2 : Rd W' 1 C m (l1.map (Value.int .i64))) (hr3 : Rd W' 1 B m (bf.map (Value.int .i64))) => bkN0_any A C B m c c' d xs l1 bf lev sos W' hr1 hr2 hr3 (by omega))
  rw [hl2] at HN
  have H1 := Lib.hid (fun W' C c' (hr2 : Rd W' 1 C m (l2.map (Value.int .i64))) => nuN1_any C m c' l2 sos eos W' hr2 (by omega))
  rw [hl3] at H1
  have H2 := Lib.hid (fun W' C c' (hr2 : Rd W' 1 C m (l3.map (Value.int .i64))) => nuN2_any C m c' l3 lev W' hr2 (by omega))
  have HRA := Lib.hid (hr.below hb0)
  have HRB := Lib.hid (hs.below hb0)
  have HB0 := Lib.hid hb0
  have HW := Lib.hid hW
  have HBE := Lib.hid hbe
  clear hr hs hb0 hbx hW hl1 hl2 hl3 hsos hbe
  go_enter Tryz.func26, Tryz.ntmps26
  go_wp2_with fail
  rw [HBE.out, HW.out]
  go_wp2_with (first
    | (go_at_call 43; with_reducible refine HA.out.mono ?_; rintro e w1 ⟨⟨v1, rfl, hv1⟩, hb1⟩; obtain ⟨C1, k1, he1, _⟩ := own_form hv1; subst he1; have HR1 := Lib.hid (Rd.of_own hv1); have HB1 := Lib.hid hb1; have e1 := cell_below hb1 c1; have e2 := cell_below hb1 c2; have e3 := cell_below hb1 c3; clear hv1 hb1)
    | (go_at_call 44; with_reducible refine (HN.out w1 C1 k1 (HRA.out.below HB1.out) HR1.out (HRB.out.below HB1.out)).mono ?_; rintro e w2 ⟨v2, rfl, hv2, hb2⟩; obtain ⟨C2, k2, he2, _⟩ := own_form hv2; subst he2; have HR2 := Lib.hid (Rd.of_own hv2); have HB2 := Lib.hid (below_self HB1.out hb2); have f1 := cell_below hb2 e1; have f2 := cell_below hb2 e2; have f3 := cell_below hb2 e3; clear hv2 hb2)
    | (go_at_call 45; with_reducible refine (H1.out w2 C2 k2 HR2.out).mono ?_; rintro e w3 ⟨v3, rfl, hv3, hb3⟩; obtain ⟨C3, k3, he3, _⟩ := own_form hv3; subst he3; have HR3 := Lib.hid (Rd.of_own hv3); have HB3 := Lib.hid (below_self HB2.out hb3); have g1 := cell_below hb3 f1; clear hv3 hb3)
    | (go_at_call 46; with_reducible refine (H2.out w3 C3 k3 HR3.out).mono ?_; rintro e w4 ⟨v4, rfl, hv4, hb4⟩; have HV4 := Lib.hid hv4; have HB4 := Lib.hid (below_self HB3.out hb4); have HZ3 := Lib.hid HB3.out.size; clear hv4 hb4)
    | fail)
  go_ret
  refine ⟨_, rfl, ?_, ?_⟩
  · rw [HV.out]
    exact own_base HV4.out (Nat.le_trans HB0.out.size HZ3.out)
  · exact HB0.out.trans (HB4.out.mono HB0.out.size)
end Go.Proofs.YtdgomaoikeffhaaGreat
