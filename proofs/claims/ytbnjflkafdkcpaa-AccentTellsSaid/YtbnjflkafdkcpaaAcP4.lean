/- accent.Order: one call of its closure, walked. -/
import Derived.Test.YtbnjflkafdkcpaaAcP2
import Derived.Test.YtbnjflkafdkcpaaBxM
import Derived.Test.YtbnjflkafdkcpaaRvI
import Derived.Test.YtbnjflkafdkcpaaSubR
namespace Go.Proofs.Ytbnjflkafdkcpaa
open Go.RowKit

theorem intBoxA : (22 : TypeId) ≠ 3 := by decide
theorem eg_turn : ∀ args w, (callFunc 26 args).run Try.prog w = .ok (.enter 26 args) w := enters_of Try.func26 (by kernel_rfl) rfl
theorem BxR.turn {w0 w w1 : World} {base b g n c m : Nat} {T e : TypeId} {size : Nat} {xs xs1 : List Value} (h : BxR w0 base b T e size (.slice (some ⟨g, 0, none⟩) n c) m xs w) (hT : T ≠ e) (hg : w.grownBy w1 (some g)) (h1 : w1.ownsRow base e size (.slice (some ⟨g, 0, none⟩) n c) m xs1) : BxR w0 base b T e size (.slice (some ⟨g, 0, none⟩) n c) m xs1 w1 :=
  ⟨h.grow hT hg, h1, below_app (v := .slice (some ⟨g, 0, none⟩) n c) h.bel hg h.row h.base_le, h.lo⟩
set_option maxRecDepth 100000 in
set_option maxHeartbeats 800000 in
theorem acTurn_any (w2 : World) (bw bt n cW : Nat) (W1 : Option Addr) (o ls : List Int) (ms : List Bool) (lo hi : Nat) (hp : permB o = true) (hol : o.length = n) (hll : ls.length = n) (hg : GrpAt ls ms lo hi) (hn : n ≤ 100000) (hcW : n ≤ cW)
    (hbw : w2.heap[bw]? = some (.cells #[.slice W1 n cW] 22 (0, 0))) (hwr : Rd w2 1 W1 n ((invI o).map (Value.int .i64))) (w : World) (v : Value)
    (h : BxR w2 w2.heap.size bt 22 3 1 v n ((accU0 o (grpA ls ms lo)).map (Value.int .i64)) w) :
    Calls Try.prog 26 #[.agg #[.int .i64 (lo : Int), .int .i64 (hi : Int)], .pointer (some ⟨bw, 0, none⟩), .pointer (some ⟨bt, 0, none⟩)] w fun e w' => e = .returned (.tuple #[]) ∧
      ∃ v', BxR w2 w2.heap.size bt 22 3 1 v' n ((accU0 o (grpA ls ms lo ++ [((lo : Int), (hi : Int))])).map (Value.int .i64)) w' := by
  obtain ⟨hlo, hhi, hgr⟩ := hg
  have hok : GrpOk ls ms lo hi := by rw [hhi]; exact isG_ok hlo hgr
  have hlh := hok.lt
  clear hhi
  have hhn : hi ≤ n := by rw [← hll]; exact hok.le
  obtain ⟨ad, rfl, _, hwc⟩ := hwr.at_ (show lo < n by omega)
  obtain ⟨g, ct, rfl, hgl, hgc⟩ : ∃ g c, v = .slice (some ⟨g, 0, none⟩) n c ∧ n ≤ c ∧ True := by
    obtain ⟨g, c, e, h1, h2⟩ := h.row.form (by omega)
    obtain ⟨A0, c0, e2, h3⟩ := own_form h.row
    rw [e] at e2
    injection e2 with _ _ e3
    exact ⟨g, c, e, by omega, trivial⟩
  have HA := Lib.hid (h.low (below_new w (.cells #[.int .i64 (lo : Int), .int .i64 (hi : Int)] 31)))
  have hbx := heap_alloc_new w (.cells #[.int .i64 (lo : Int), .int .i64 (hi : Int)] 31)
  have c0 : (w.alloc (.cells #[.int .i64 (lo : Int), .int .i64 (hi : Int)] 31)).cell? ⟨w.heap.size, 0, none⟩ = some (.int .i64 (lo : Int)) := hp_cell hbx rfl
  have c1 : (w.alloc (.cells #[.int .i64 (lo : Int), .int .i64 (hi : Int)] 31)).cell? ⟨w.heap.size, 1, none⟩ = some (.int .i64 (hi : Int)) := hp_cell hbx rfl
  have cw : (w.alloc (.cells #[.int .i64 (lo : Int), .int .i64 (hi : Int)] 31)).cell? ⟨bw, 0, none⟩ = some (.slice (some ad) n cW) := cell_below HA.out.bel (hp_cell hbw rfl)
  have ct0 : (w.alloc (.cells #[.int .i64 (lo : Int), .int .i64 (hi : Int)] 31)).cell? ⟨bt, 0, none⟩ = some (.slice (some ⟨g, 0, none⟩) n ct) := hp_cell HA.out.box rfl
  have HWR := Lib.hid (hwr.below HA.out.bel)
  have HFA := Lib.hid (acFalls_any (some (ad.add lo)) (hi - lo) (cW - lo) (partF (invI o) lo hi) (w.alloc (.cells #[.int .i64 (lo : Int), .int .i64 (hi : Int)] 31)) (rd_sub HWR.out (by omega) hhn) (by omega) (fun x hx => by
    have hx2 : x ∈ invI o := List.mem_of_mem_drop (List.mem_of_mem_take hx)
    obtain ⟨k, hk⟩ := List.getElem?_of_mem hx2
    have hkl := (List.getElem?_eq_some_iff.1 hk).1
    rw [invI_len] at hkl
    obtain ⟨q, hq, hql⟩ := invI_in hp hkl
    rw [hk] at hq
    have := Option.some.inj hq
    omega))
  have HPE : Hid (partF (invI o) lo hi = ((invI o).drop lo).take (hi - lo)) := Lib.hid rfl
  have hloi : (lo : Int) ≤ (hi : Int) := by omega
  have hhic : (hi : Int) ≤ (cW : Int) := by omega
  have hlo0 : (0 : Int) ≤ (lo : Int) := by omega
  obtain ⟨b, hb⟩ : ∃ b, fallW (partF (invI o) lo hi) = b := ⟨_, rfl⟩
  rw [hb] at HFA
  rw [HPE.out] at hb
  cases b with
  | false =>
    have hno := fall_no hp (show lo < hi by omega) (by omega) hb
    have HAN : Hid (accU0 o (grpA ls ms lo ++ [((lo : Int), (hi : Int))]) = accU0 o (grpA ls ms lo)) := Lib.hid (by rw [accU0_snoc, accS_no hno])
    clear h hbw hwr hwc hb hno hbx hok hgr
    go_enter Try.func26, Try.ntmps26
    go_wp2_with (first
      | (go_at_call 27; refine HFA.out.mono ?_; rintro e w3 ⟨rfl, rfl⟩)
      | fail)
    go_end0
    exact ⟨rfl, _, by rw [HAN.out]; exact HA.out⟩
  | true =>
    obtain ⟨p, hp1, hp2, hpn, hfp⟩ := fall_here hp (show lo < hi by omega) (by omega) hb
    rw [hol] at hpn
    have HAN : Hid (accU0 o (grpA ls ms lo ++ [((lo : Int), (hi : Int))]) = revM (accU0 o (grpA ls ms lo)) p (hi - lo)) := Lib.hid (by rw [accU0_snoc, accS_rev hp hok (by omega) (by omega) hfp])
    obtain ⟨hm, hhm⟩ : ∃ hm, hi - 1 = hm := ⟨_, rfl⟩
    obtain ⟨q, hq⟩ : ∃ q, p + (hi - lo) - 1 = q := ⟨_, rfl⟩
    obtain ⟨en, hen⟩ : ∃ en, q + 1 = en := ⟨_, rfl⟩
    rw [hhm] at hp1
    rw [hq] at hp2
    have cp := HWR.out.news hm (.int .i64 (p : Int)) (by rw [List.getElem?_map, hp1]; rfl)
    have cq := HWR.out.news lo (.int .i64 (q : Int)) (by rw [List.getElem?_map, hp2]; rfl)
    have hhm1 : (hi : Int) - 1 = (hm : Int) := by omega
    have hhmn : (hm : Int) < (n : Int) := by omega
    have hhm0 : (0 : Int) ≤ (hm : Int) := by omega
    have hlon : (lo : Int) < (n : Int) := by omega
    have hqe : (q : Int) + 1 = (en : Int) := by omega
    have hpe : (p : Int) ≤ (en : Int) := by omega
    have hen5 : (en : Int) ≤ 100000 := by omega
    have hen0 : (0 : Int) ≤ (en : Int) := by omega
    have hec : (en : Int) ≤ (ct : Int) := by omega
    have hLe : Hid (hi - lo = en - p) := Lib.hid (by omega)
    have HEN : Hid (p + (en - p) ≤ n) := Lib.hid (by omega)
    clear h hbw hwr hwc hb hbx hok hgr hp1 hp2 hfp hhm hq hen
    go_enter Try.func26, Try.ntmps26
    go_wp2_with (first
      | (go_at_call 27; refine HFA.out.mono ?_; rintro e w3 ⟨rfl, rfl⟩)
      | fail)
    go_quiet (fail)
    have HD := Lib.hid (HA.out.low (drewBelow nq))
    have HRV := Lib.hid (revMI_any (base := w2.heap.size) (g := g) (n := n) (cap := ct) (p := p) (L := en - p) (cm := ct - p) HD.out.row HEN.out (by omega))
    go_wp2_with (first
      | (go_at_call 28; with_reducible (refine HRV.out.mono ?_); rintro e w4 ⟨rfl, ho4, hg4⟩; have HO4 := Lib.hid ho4; have HG4 := Lib.hid hg4; clear ho4 hg4)
      | fail)
    go_end0
    refine ⟨rfl, .slice (some ⟨g, 0, none⟩) n ct, ?_⟩
    rw [HAN.out, hLe.out]
    exact (HA.out.low (drewBelow nq)).turn intBoxA HG4.out HO4.out
end Go.Proofs.Ytbnjflkafdkcpaa
