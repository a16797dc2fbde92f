/- Texts of one claim, one behind the other. -/
import Derived.Test.YtbnjflkafdkcpaaMgAo2
import Derived.Test.YtbnjflkafdkcpaaMgAo3
import Derived.Test.YtbnjflkafdkcpaaMgAo4
import Derived.Test.YtbnjflkafdkcpaaMgAo5
import Derived.Test.YtbnjflkafdkcpaaMgAo7
import Derived.Test.YtbnjflkafdkcpaaMgAo8
/- accent.Order: one call of its closure, walked. -/
namespace Go.Proofs.Ytbnjflkafdkcpaa
open Go.RowKit

theorem intBoxA : (22 : TypeId) ≠ 3 := by decide
theorem eg_turn : ∀ args w, (callFunc 26 args).run Try.prog w = .ok (.enter 26 args) w := enters_of Try.func26 (by kernel_rfl) rfl
theorem BxR.turn {w0 w w1 : World} {base b g n c m : Nat} {T e : TypeId} {size : Nat} {xs xs1 : List Value} (h : BxR w0 base b T e size (.slice (some ⟨g, 0, none⟩) n c) m xs w) (hT : T ≠ e) (hg : w.grownBy w1 (some g)) (h1 : w1.ownsRow base e size (.slice (some ⟨g, 0, none⟩) n c) m xs1) : BxR w0 base b T e size (.slice (some ⟨g, 0, none⟩) n c) m xs1 w1 :=
  ⟨h.grow hT hg, h1, below_app (v := .slice (some ⟨g, 0, none⟩) n c) h.bel hg h.row h.base_le, h.lo⟩
set_option maxRecDepth 100000 in
set_option maxHeartbeats 800000 in
theorem acTurn_any (w2 : World) (bw bt n cW : Nat) (W1 : Option Addr) (o ls : List Int) (ms : List Bool) (lo hi : Nat) (hp : permB o = true) (hol : o.length = n) (hll : ls.length = n) (hg : GrpAt ls ms lo hi) (hn : n ≤ 100000) (hcW : n ≤ cW)
    (hbw : w2.heap[bw]? = some (.cells #[.slice W1 n cW] 22 (0, 0))) (hwr : Rd w2 1 W1 n ((invI o).map (Value.int .i64))) (w : World) (v : Value)
    (h : BxR w2 w2.heap.size bt 22 3 1 v n ((accU0 o (grpA ls ms lo)).map (Value.int .i64)) w) :
    Calls Try.prog 26 #[.agg #[.int .i64 (lo : Int), .int .i64 (hi : Int)], .pointer (some ⟨bw, 0, none⟩), .pointer (some ⟨bt, 0, none⟩)] w fun e w' => e = .returned (.tuple #[]) ∧
      ∃ v', BxR w2 w2.heap.size bt 22 3 1 v' n ((accU0 o (grpA ls ms lo ++ [((lo : Int), (hi : Int))])).map (Value.int .i64)) w' := by
  obtain ⟨hlo, hhi, hgr⟩ := hg
  have hok : GrpOk ls ms lo hi := by rw [hhi]; exact isG_ok hlo hgr
  have hlh := hok.lt
  clear hhi
  have hhn : hi ≤ n := by rw [← hll]; exact hok.le
  obtain ⟨ad, rfl, _, hwc⟩ := hwr.at_ (show lo < n by omega)
  obtain ⟨g, ct, rfl, hgl, hgc⟩ : ∃ g c, v = .slice (some ⟨g, 0, none⟩) n c ∧ n ≤ c ∧ True := by
    obtain ⟨g, c, e, h1, h2⟩ := h.row.form (by omega)
    obtain ⟨A0, c0, e2, h3⟩ := own_form h.row
    rw [e] at e2
    injection e2 with _ _ e3
    exact ⟨g, c, e, by omega, trivial⟩
  have HA := Lib.hid (h.low (below_new w (.cells #[.int .i64 (lo : Int), .int .i64 (hi : Int)] 31)))
  have hbx := heap_alloc_new w (.cells #[.int .i64 (lo : Int), .int .i64 (hi : Int)] 31)
  have c0 : (w.alloc (.cells #[.int .i64 (lo : Int), .int .i64 (hi : Int)] 31)).cell? ⟨w.heap.size, 0, none⟩ = some (.int .i64 (lo : Int)) := hp_cell hbx rfl
  have c1 : (w.alloc (.cells #[.int .i64 (lo : Int), .int .i64 (hi : Int)] 31)).cell? ⟨w.heap.size, 1, none⟩ = some (.int .i64 (hi : Int)) := hp_cell hbx rfl
  have cw : (w.alloc (.cells #[.int .i64 (lo : Int), .int .i64 (hi : Int)] 31)).cell? ⟨bw, 0, none⟩ = some (.slice (some ad) n cW) := cell_below HA.out.bel (hp_cell hbw rfl)
  have ct0 : (w.alloc (.cells #[.int .i64 (lo : Int), .int .i64 (hi : Int)] 31)).cell? ⟨bt, 0, none⟩ = some (.slice (some ⟨g, 0, none⟩) n ct) := hp_cell HA.out.box rfl
  have HWR := Lib.hid (hwr.below HA.out.bel)
  have HFA := Lib.hid (acFalls_any (some (ad.add lo)) (hi - lo) (cW - lo) (partF (invI o) lo hi) (w.alloc (.cells #[.int .i64 (lo : Int), .int .i64 (hi : Int)] 31)) (rd_sub HWR.out (by omega) hhn) (by omega) (fun x hx => by
    have hx2 : x ∈ invI o := List.mem_of_mem_drop (List.mem_of_mem_take hx)
    obtain ⟨k, hk⟩ := List.getElem?_of_mem hx2
    have hkl := (List.getElem?_eq_some_iff.1 hk).1
    rw [invI_len] at hkl
    obtain ⟨q, hq, hql⟩ := invI_in hp hkl
    rw [hk] at hq
    have := Option.some.inj hq
    omega))
  have HPE : Hid (partF (invI o) lo hi = ((invI o).drop lo).take (hi - lo)) := Lib.hid rfl
  have hloi : (lo : Int) ≤ (hi : Int) := by omega
  have hhic : (hi : Int) ≤ (cW : Int) := by omega
  have hlo0 : (0 : Int) ≤ (lo : Int) := by omega
  obtain ⟨b, hb⟩ : ∃ b, fallW (partF (invI o) lo hi) = b := ⟨_, rfl⟩
  rw [hb] at HFA
  rw [HPE.out] at hb
  cases b with
  | false =>
    have hno := fall_no hp (show lo < hi by omega) (by omega) hb
    have HAN : Hid (accU0 o (grpA ls ms lo ++ [((lo : Int), (hi : Int))]) = accU0 o (grpA ls ms lo)) := Lib.hid (by rw [accU0_snoc, accS_no hno])
    clear h hbw hwr hwc hb hno hbx hok hgr
    go_enter Try.func26, Try.ntmps26
    go_wp2_with (first
      | (go_at_call 27; refine HFA.out.mono ?_; rintro e w3 ⟨rfl, rfl⟩)
      | fail)
    go_end0
    exact ⟨rfl, _, by rw [HAN.out]; exact HA.out⟩
  | true =>
    obtain ⟨p, hp1, hp2, hpn, hfp⟩ := fall_here hp (show lo < hi by omega) (by omega) hb
    rw [hol] at hpn
    have HAN : Hid (accU0 o (grpA ls ms lo ++ [((lo : Int), (hi : Int))]) = revM (accU0 o (grpA ls ms lo)) p (hi - lo)) := Lib.hid (by rw [accU0_snoc, accS_rev hp hok (by omega) (by omega) hfp])
    obtain ⟨hm, hhm⟩ : ∃ hm, hi - 1 = hm := ⟨_, rfl⟩
    obtain ⟨q, hq⟩ : ∃ q, p + (hi - lo) - 1 = q := ⟨_, rfl⟩
    obtain ⟨en, hen⟩ : ∃ en, q + 1 = en := ⟨_, rfl⟩
    rw [hhm] at hp1
    rw [hq] at hp2
    have cp := HWR.out.news hm (.int .i64 (p : Int)) (by rw [List.getElem?_map, hp1]; rfl)
    have cq := HWR.out.news lo (.int .i64 (q : Int)) (by rw [List.getElem?_map, hp2]; rfl)
    have hhm1 : (hi : Int) - 1 = (hm : Int) := by omega
    have hhmn : (hm : Int) < (n : Int) := by omega
    have hhm0 : (0 : Int) ≤ (hm : Int) := by omega
    have hlon : (lo : Int) < (n : Int) := by omega
    have hqe : (q : Int) + 1 = (en : Int) := by omega
    have hpe : (p : Int) ≤ (en : Int) := by omega
    have hen5 : (en : Int) ≤ 100000 := by omega
    have hen0 : (0 : Int) ≤ (en : Int) := by omega
    have hec : (en : Int) ≤ (ct : Int) := by omega
    have hLe : Hid (hi - lo = en - p) := Lib.hid (by omega)
    have HEN : Hid (p + (en - p) ≤ n) := Lib.hid (by omega)
    clear h hbw hwr hwc hb hbx hok hgr hp1 hp2 hfp hhm hq hen
    go_enter Try.func26, Try.ntmps26
    go_wp2_with (first
      | (go_at_call 27; refine HFA.out.mono ?_; rintro e w3 ⟨rfl, rfl⟩)
      | fail)
    go_quiet (fail)
    have HD := Lib.hid (HA.out.low (drewBelow nq))
    have HRV := Lib.hid (revMI_any (base := w2.heap.size) (g := g) (n := n) (cap := ct) (p := p) (L := en - p) (cm := ct - p) HD.out.row HEN.out (by omega))
    go_wp2_with (first
      | (go_at_call 28; with_reducible (refine HRV.out.mono ?_); rintro e w4 ⟨rfl, ho4, hg4⟩; have HO4 := Lib.hid ho4; have HG4 := Lib.hid hg4; clear ho4 hg4)
      | fail)
    go_end0
    refine ⟨rfl, .slice (some ⟨g, 0, none⟩) n ct, ?_⟩
    rw [HAN.out, hLe.out]
    exact (HA.out.low (drewBelow nq)).turn intBoxA HG4.out HO4.out
end Go.Proofs.Ytbnjflkafdkcpaa
/- accent.Order, walked. -/
namespace Go.Proofs.Ytbnjflkafdkcpaa
open Go.RowKit

theorem oneIntsA (l : List Int) : ∀ u ∈ l.map (Value.int .i64), u.oneCell' = true := fun u hu => by
  obtain ⟨x, _, rfl⟩ := List.mem_map.1 hu
  rfl
set_option maxRecDepth 100000 in
set_option maxHeartbeats 2000000 in
theorem acOrder_any (A B C : Option Addr) (n m p c d e : Nat) (o ls : List Int) (ms : List Bool) (w : World) (hr : Rd w 1 A n (o.map (Value.int .i64))) (hs : Rd w 1 B m (ls.map (Value.int .i64))) (ht : Rd w 1 C p (ms.map Value.bool)) (hn : n ≤ 100000) :
    Calls Try.prog 9 #[.slice A n c, .slice B m d, .slice C p e] w fun e w' => ∃ v, e = .returned (.tuple #[v, .int .i64 (accE o ls ms)]) ∧ w'.ownsRow w.heap.size 3 1 v (accR o ls ms).length ((accR o ls ms).map (Value.int .i64)) ∧ Below w.heap.size w w' := by
  have hol : o.length = n := by simpa using hr.len1
  have hll : ls.length = m := by simpa using hs.len1
  have hml : ms.length = p := by simpa using ht.len1
  by_cases hlen : n ≠ m ∨ n ≠ p
  · have HE : Hid (accE o ls ms = 1) := Lib.hid (by unfold accE; rw [if_pos (by omega)])
    have HR : Hid (accR o ls ms = []) := Lib.hid (by unfold accR; rw [if_pos (by omega)])
    clear hr hs ht hol hll hml
    rw [HE.out, HR.out]
    by_cases hnm : n = m
    · subst hnm
      have hnp : ((n : Int) != (p : Int)) = true := by simp; omega
      clear hlen
      go_enter Try.func9, Try.ntmps9
      go_wp2_with fail
      exact bodyPost_ret (v := .tuple #[.slice none 0 0, .int .i64 1]) (by simp [results, go_sem]) rfl ⟨_, rfl, ⟨rfl, .inl ⟨rfl, rfl⟩⟩, Below.refl _ _⟩
    · have hnm2 : ((n : Int) != (m : Int)) = true := by simp; omega
      clear hlen
      go_enter Try.func9, Try.ntmps9
      go_wp2_with fail
      exact bodyPost_ret (v := .tuple #[.slice none 0 0, .int .i64 1]) (by simp [results, go_sem]) rfl ⟨_, rfl, ⟨rfl, .inl ⟨rfl, rfl⟩⟩, Below.refl _ _⟩
  · obtain rfl : n = m := by omega
    obtain rfl : n = p := by omega
    clear hlen
    have HIV := Lib.hid (orInverse_any A n c o w hr hn)
    by_cases hp : permB o = true
    · have HE : Hid (accE o ls ms = 0) := Lib.hid (by unfold accE; rw [if_neg (by omega), if_neg (by rw [hp]; decide)])
      have HR : Hid (accR o ls ms = accU0 o (grpA ls ms n)) := Lib.hid (by unfold accR; rw [if_neg (by omega), if_neg (by rw [hp]; decide)]; unfold grpF; rw [if_pos (by omega), hll]; rfl)
      have hiv : invE o = (invI o, 0) := by unfold invE; rw [if_pos hp]; rfl
      have hil : (invI o).length = n := by rw [invI_len, hol]
      rw [hiv] at HIV
      simp only [hil] at HIV
      have HLN : Hid ((accU0 o (grpA ls ms n)).length = n) := Lib.hid (by rw [accU0_len, hol])
      have HCL := Lib.hid (fun W (hB : Below w.heap.size w W) => cloneInt_any A n c (o.map (Value.int .i64)) W (hr.below hB) (oneIntsA o) (by omega))
      have HEA := Lib.hid (fun (w2 : World) (bw bt cW : Nat) (W1 : Option Addr) (hcW : n ≤ cW) (hbw : w2.heap[bw]? = some (.cells #[.slice W1 n cW] 22 (0, 0))) (hwr : Rd w2 1 W1 n ((invI o).map (Value.int .i64))) (hB : Below w.heap.size w w2) (W : World) (v0 : Value) (hX : BxR w2 w2.heap.size bt 22 3 1 v0 n (o.map (Value.int .i64)) W) =>
        acEach_any _ #[.pointer (some ⟨bw, 0, none⟩), .pointer (some ⟨bt, 0, none⟩)] eg_turn B C n d e ls ms (fun G W => ∃ v, BxR w2 w2.heap.size bt 22 3 1 v n ((accU0 o G).map (Value.int .i64)) W) hll hml hn
          (fun G W h => by obtain ⟨v, h⟩ := h; exact hs.below (below_self hB h.bel)) (fun G W h => by obtain ⟨v, h⟩ := h; exact ht.below (below_self hB h.bel))
          (fun G W q h => by obtain ⟨v, h⟩ := h; exact ⟨v, h.low (drewBelow q)⟩)
          (fun lo hi W hg h => by obtain ⟨v, h⟩ := h; exact acTurn_any w2 bw bt n cW W1 o ls ms lo hi hp hol hll hg hn hcW hbw hwr W v h) W ⟨v0, hX⟩)
      clear hr hs ht hol hll hml hiv hil hp
      rw [HE.out, HR.out, HLN.out]
      go_enter Try.func9, Try.ntmps9
      go_wp2_with (first
        | (go_at_call 24; refine HIV.out.mono ?_; rintro e w1 ⟨v1, rfl, hv1, hb1⟩; obtain ⟨A1, c1, he1, hc1⟩ := own_form hv1; subst he1; have HR1 := Lib.hid ((Rd.of_own hv1).alloc (.cells #[.slice A1 n c1] 22)); have HB1 : Hid (Below w.heap.size w (w1.alloc (.cells #[.slice A1 n c1] 22))) := Lib.hid (hb1.alloc hb1.size _); have HBX := Lib.hid (heap_alloc_new w1 (.cells #[.slice A1 n c1] 22)); clear hv1 hb1)
        | (go_at_call 19; refine (HCL.out _ HB1.out).mono ?_; rintro e w3 ⟨v3, rfl, hv3, hb3⟩; obtain ⟨A3, c3, he3, _⟩ := own_form hv3; subst he3; have HX := Lib.hid (BxR.start hv3 hb3 hb3.size 22); have HS3 := Lib.hid hb3.size; clear hv3 hb3)
        | (go_at_call 25; refine (HEA.out _ w1.heap.size w3.heap.size c1 A1 hc1 HBX.out HR1.out HB1.out _ _ HX.out).mono ?_; rintro e w4 ⟨rfl, v4, h4⟩; obtain ⟨A4, c4, he4, _⟩ := own_form h4.row; subst he4; have H4 := Lib.hid h4; have cc4 : w4.cell? ⟨w3.heap.size, 0, none⟩ = some (.slice A4 n c4) := hp_cell h4.box rfl; clear h4)
        | fail)
      have hsz := HB1.out.size
      exact bodyPost_ret (v := .tuple #[.slice A4 n c4, .int .i64 0]) (by simp [results, go_sem]) rfl ⟨_, rfl, own_base H4.out.row hsz, below_self HB1.out H4.out.bel⟩
    · have hpf : permB o = false := by simpa using hp
      have HE : Hid (accE o ls ms = 13) := Lib.hid (by unfold accE; rw [if_neg (by omega), if_pos hpf])
      have HR : Hid (accR o ls ms = []) := Lib.hid (by unfold accR; rw [if_neg (by omega), if_pos hpf])
      have hiv : invE o = ([], 13) := by unfold invE; rw [if_neg hp]
      rw [hiv] at HIV
      simp only [List.length_nil, List.map_nil] at HIV
      clear hr hs ht hol hll hml hiv hp hpf
      rw [HE.out, HR.out]
      go_enter Try.func9, Try.ntmps9
      go_wp2_with (first
        | (go_at_call 24; refine HIV.out.mono ?_; rintro e w1 ⟨v1, rfl, hv1, hb1⟩; obtain ⟨A1, c1, he1, hc1⟩ := own_form hv1; subst he1; have HB1 : Hid (Below w.heap.size w (w1.alloc (.cells #[.slice A1 0 c1] 22))) := Lib.hid (hb1.alloc hb1.size _); clear hv1 hb1)
        | fail)
      exact bodyPost_ret (v := .tuple #[.slice none 0 0, .int .i64 13]) (by simp [results, go_sem]) rfl ⟨_, rfl, ⟨rfl, .inl ⟨rfl, rfl⟩⟩, HB1.out⟩
end Go.Proofs.Ytbnjflkafdkcpaa
/- naskhlaw31.awake. -/
namespace Go.Proofs.Ytbnjflkafdkcpaa
open Go.RowKit

theorem ac_awake : accR [2, 1, 0] [1, 1, 1] [false, true, true] = [0, 1, 2] := by decide +kernel
theorem ac_awake2 : accE [2, 1, 0] [1, 1, 1] [false, true, true] = 0 := by decide +kernel
theorem ac_awake3 : (grpF [1, 1] [false, true]).length = 1 := by decide +kernel
set_option maxRecDepth 100000 in
set_option maxHeartbeats 2000000 in
theorem awakeAc_any (w : World) : Calls Try.prog 8 #[] w fun e w' => e = .returned (.bool true) ∧ Below w.heap.size w w' := by
  obtain ⟨wa, hwa⟩ : ∃ wa, w.alloc (.cells #[.int .i64 2, .int .i64 1, .int .i64 0] 3) = wa := ⟨_, rfl⟩
  obtain ⟨wb, hwb⟩ : ∃ wb, wa.alloc (.cells #[.int .i64 1, .int .i64 1, .int .i64 1] 3) = wb := ⟨_, rfl⟩
  have hsa : wa.heap.size = w.heap.size + 1 := by rw [← hwa, World.size_alloc]
  have hsb : wb.heap.size = w.heap.size + 2 := by rw [← hwb, World.size_alloc, hsa]
  have hba : Below w.heap.size w wa := by rw [← hwa]; exact below_new w _
  have hbb : Below w.heap.size w wb := by rw [← hwb]; exact hba.alloc hba.size _
  have hra : Rd wa 1 (some ⟨w.heap.size, 0, none⟩) 3 ([2, 1, 0].map (Value.int .i64)) := by rw [← hwa]; exact Rd.new_ w [.int .i64 2, .int .i64 1, .int .i64 0] 3
  have hra2 : Rd wb 1 (some ⟨w.heap.size, 0, none⟩) 3 ([2, 1, 0].map (Value.int .i64)) := by rw [← hwb]; exact hra.alloc _
  have hrb : Rd wb 1 (some ⟨w.heap.size + 1, 0, none⟩) 3 ([1, 1, 1].map (Value.int .i64)) := by rw [← hwb, ← hsa]; exact Rd.new_ wa [.int .i64 1, .int .i64 1, .int .i64 1] 3
  have hrc : Rd (wb.alloc (.cells #[.bool false, .bool true, .bool true] 4)) 1 (some ⟨w.heap.size + 2, 0, none⟩) 3 ([false, true, true].map Value.bool) := by rw [← hsb]; exact Rd.new_ wb [.bool false, .bool true, .bool true] 4
  have HO := Lib.hid (acOrder_any (some ⟨w.heap.size, 0, none⟩) (some ⟨w.heap.size + 1, 0, none⟩) (some ⟨w.heap.size + 2, 0, none⟩) 3 3 3 3 3 3 [2, 1, 0] [1, 1, 1] [false, true, true] (wb.alloc (.cells #[.bool false, .bool true, .bool true] 4)) (hra2.alloc _) (hrb.alloc _) hrc (by omega))
  rw [ac_awake, ac_awake2] at HO
  have HB1 : Hid (Below w.heap.size w (wb.alloc (.cells #[.bool false, .bool true, .bool true] 4))) := Lib.hid (hbb.alloc hbb.size _)
  rw [← hwb, ← hwa] at HO HB1
  clear hba hbb hra hra2 hrb hrc hsa hsb hwb hwa
  have HG := Lib.hid (fun (W : World) => acGroups_any (some ⟨W.heap.size, 0, none⟩) (some ⟨W.heap.size + 1, 0, none⟩) 2 2 2 2 [1, 1] [false, true] ((W.alloc (.cells #[.int .i64 1, .int .i64 1] 3)).alloc (.cells #[.bool false, .bool true] 4)) ((Rd.new_ W [.int .i64 1, .int .i64 1] 3).alloc _) (by have := Rd.new_ (W.alloc (.cells #[.int .i64 1, .int .i64 1] 3)) [.bool false, .bool true] 4; simpa using this) (by omega))
  simp only [ac_awake3] at HG
  have HB9 := Lib.hid (fun (W : World) => show Below W.heap.size W ((W.alloc (.cells #[.int .i64 1, .int .i64 1] 3)).alloc (.cells #[.bool false, .bool true] 4)) from (below_new W _).alloc (by simp) _)
  go_enter Try.func8, Try.ntmps8
  go_wp2_with (first
    | (go_at_call 9; refine HO.out.mono ?_; rintro e w3 ⟨v3, rfl, hv3, hb3⟩; obtain ⟨A3, c3, he3, _⟩ := own_form hv3; subst he3; have HV3 := Lib.hid hv3; have HB3 := Lib.hid (below_self HB1.out hb3); clear hv3 hb3)
    | (go_at_call 14; refine (equalInt_b A3 (some ⟨w3.heap.size, 0, none⟩) 3 3 c3 3 [0, 1, 2] [0, 1, 2] (w3.alloc (.cells #[.int .i64 0, .int .i64 1, .int .i64 2] 3)) ((Rd.of_own HV3.out).alloc _) (Rd.new_ w3 [.int .i64 0, .int .i64 1, .int .i64 2] _) (by unfold maxLen; omega) (by unfold maxLen; omega)).mono ?_; rintro e w5 ⟨rfl, hb5⟩; have HB5 := Lib.hid (below_self HB3.out (below_self (below_new w3 _) hb5)); clear hb5)
    | (go_at_call 12; refine (HG.out w5).mono ?_; rintro e w6 ⟨v6, rfl, hv6, hb6⟩; obtain ⟨A6, c6, he6, _⟩ := own_form hv6; subst he6; have HB6 := Lib.hid (below_self HB5.out (below_self (HB9.out w5) hb6)); clear hv6 hb6)
    | fail)
  go_ret
  exact ⟨rfl, HB6.out⟩
end Go.Proofs.Ytbnjflkafdkcpaa
/- naskhlaw31.AccentOrder. -/
namespace Go.Proofs.Ytbnjflkafdkcpaa
open Go.RowKit

section
variable {ls : List Int} {ms : List Bool} (h : ∀ x ∈ ls, 0 ≤ x ∧ x ≤ 126) (hl : ms.length = ls.length)
include hl
theorem accR_vis : accR (visI ls) ls ms = accF (visI ls) (grpF ls ms) := by
  unfold accR
  rw [if_neg (by rw [visI_len, hl]; omega), if_neg (by rw [visI_perm]; decide)]
theorem accE_vis : accE (visI ls) ls ms = 0 := by
  unfold accE
  rw [if_neg (by rw [visI_len, hl]; omega), if_neg (by rw [visI_perm]; decide)]
theorem accR_vis_len : (accR (visI ls) ls ms).length = ls.length := by
  rw [accR_vis hl]
  exact (acc_len _ _ _ rfl).trans (visI_len ls)
include h
theorem accR_perm : permB (accR (visI ls) ls ms) = true := by
  obtain ⟨h1, h2⟩ := of_decide_eq_true (visI_perm ls)
  rw [visI_len] at h1
  have hp := acc_perm (o := visI ls) (ms := ms) (vis_all h) h2 h1
  refine decide_eq_true ⟨?_, ?_⟩
  · rw [accR_vis_len hl, accR_vis hl]
    exact hp.2
  · rw [accR_vis hl]
    exact hp.1
theorem accR_inv {a b : Nat} (hs : ((a : Int), (b : Int)) ∈ grpF ls ms) : ∃ p : Nat, ∀ j, a ≤ j → j < b → (invI (accR (visI ls) ls ms))[j]? = some ((p + (j - a) : Nat) : Int) := by
  obtain ⟨h1, h2⟩ := of_decide_eq_true (visI_perm ls)
  obtain ⟨p, hp⟩ := acc_rises (o := visI ls) (vis_all h) h2 hs
  refine ⟨p, fun j hj hb => invI_at (accR_perm h hl) ?_⟩
  rw [accR_vis hl]
  have := hp (j - a) (by unfold lenG; simp only; omega)
  rw [this]
  simp only
  congr 1
  omega
end
set_option maxRecDepth 100000 in
set_option maxHeartbeats 4000000 in
theorem accentOrder_any (A B : Option Addr) (n c m d : Nat) (ls : List Int) (ms : List Bool) (w : World) (hr : Rd w 1 A n (ls.map (Value.int .i64))) (hs : Rd w 1 B m (ms.map Value.bool)) :
    Calls Try.prog 4 #[.slice A n c, .slice B m d] w fun e w' => e = .returned (.bool true) ∧ Below w.heap.size w w' := by
  have HAW := Lib.hid awakeAc_any
  by_cases hg : 100 < n ∨ n ≠ m
  · clear hr hs
    by_cases h1 : 100 < n
    · have g1 : (100 : Int) < (n : Int) := by omega
      clear hg
      go_enter Try.func4, Try.ntmps4
      go_wp2_with (first
        | (go_at_call 8; refine (HAW.out _).mono ?_; rintro e w1 ⟨rfl, hb1⟩)
        | fail)
      go_ret
      exact ⟨rfl, hb1⟩
    · have g1 : ¬ (100 : Int) < (n : Int) := by omega
      have g2 : ((n : Int) != (m : Int)) = true := by simp; omega
      clear hg
      go_enter Try.func4, Try.ntmps4
      go_wp2_with (first
        | (go_at_call 8; refine (HAW.out _).mono ?_; rintro e w1 ⟨rfl, hb1⟩)
        | fail)
      go_ret
      exact ⟨rfl, hb1⟩
  · obtain rfl : n = m := by omega
    have hn1 : n ≤ 100 := by omega
    have g1 : ¬ (100 : Int) < (n : Int) := by omega
    have hll : ls.length = n := by simpa using hr.len1
    have hml : ms.length = n := by simpa using hs.len1
    have HL := Lib.hid hll
    have HML := Lib.hid hml
    have HR := Lib.hid hr
    have HS := Lib.hid hs
    clear hr hs hll hml hg
    go_enter Try.func4, Try.ntmps4
    go_wp2_with fail
    go_loopw [27] (fun i wr => ∃ k : Nat, k ≤ n ∧ i = .int .i64 (k : Int) ∧ (∀ j x, j < k → ls[j]? = some x → 0 ≤ x ∧ x ≤ 126) ∧ wr = w) (fun i _ => n - (intOf i).toNat)
    case atStart => exact ⟨0, Nat.zero_le _, rfl, fun j x hj => by omega, rfl⟩
    case round =>
      obtain ⟨k, hk, rfl, hok, rfl⟩ := hrel
      have HOK := Lib.hid hok
      clear hok
      by_cases hlt : k < n
      · obtain ⟨x, hx⟩ : ∃ x, ls[k]? = some x := ⟨_, List.getElem?_eq_getElem (by rw [HL.out]; exact hlt)⟩
        obtain ⟨ad, rfl, hab, hcell⟩ := HR.out.at_ hlt
        have cx := hcell (.int .i64 x) (by rw [List.getElem?_map, hx]; rfl)
        have hki : (k : Int) < (n : Int) := by omega
        have HX := Lib.hid hx
        clear hx hcell
        by_cases h0 : x < 0
        · go_wp2_with (first
            | (go_at_call 8; refine (HAW.out _).mono ?_; rintro e w1 ⟨rfl, hb1⟩)
            | fail)
          go_ret
          exact ⟨rfl, hb1⟩
        · by_cases h1 : 126 < x
          · go_wp2_with (first
              | (go_at_call 8; refine (HAW.out _).mono ?_; rintro e w1 ⟨rfl, hb1⟩)
              | fail)
            go_ret
            exact ⟨rfl, hb1⟩
          · have HOK2 := Lib.hid (show ∀ j y, j < k + 1 → ls[j]? = some y → 0 ≤ y ∧ y ≤ 126 from fun j y hj hy => by
              by_cases e : j = k
              · subst e
                rw [HX.out] at hy
                obtain rfl := Option.some.inj hy
                omega
              · exact HOK.out j y (by omega) hy)
            go_wp2_with fail
            go_roundw
            case rel => exact ⟨k + 1, by omega, by go_num, HOK2.out, by first | rfl | trivial⟩
            case measure => simp [intOf]; omega
      · obtain rfl : k = n := by omega
        have HV := Lib.hid (show ∀ x ∈ ls, 0 ≤ x ∧ x ≤ 126 from fun x hx => by
          obtain ⟨j, hj⟩ := List.getElem?_of_mem hx
          exact HOK.out j x (by have := (List.getElem?_eq_some_iff.1 hj).1; rw [HL.out] at this; exact this) hj)
        have hlm : ms.length = ls.length := by rw [HL.out, HML.out]
        have HPM := Lib.hid (accR_perm HV.out hlm)
        have HIN := Lib.hid (fun a b => accR_inv (a := a) (b := b) HV.out hlm)
        have hvl : (accR (visI ls) ls ms).length = k := by rw [accR_vis_len hlm, HL.out]
        have HVL := Lib.hid hvl
        have H1 := Lib.hid (roVis_any A k c ls wr HR.out (by omega))
        have H2 := Lib.hid (fun W (hB : Below wr.heap.size wr W) (A1 : Option Addr) (c1 : Nat) (h1 : Rd W 1 A1 k ((visI ls).map (Value.int .i64))) => acOrder_any A1 A B k k k c1 c d (visI ls) ls ms W h1 (HR.out.below hB) (HS.out.below hB) (by omega))
        rw [accE_vis hlm, hvl] at H2
        have H5 := Lib.hid (fun W (hB : Below wr.heap.size wr W) => acGroups_any A B k k c d ls ms W (HR.out.below hB) (HS.out.below hB) (by omega))
        have hgl : (grpF ls ms).length ≤ k := by rw [← HL.out]; unfold grpF; split; exact grpA_len ls ms _; simp
        have HMEM := Lib.hid (fun s (hs : s ∈ grpF ls ms) => grp_mem hs)
        obtain ⟨V, hV⟩ : ∃ V, accR (visI ls) ls ms = V := ⟨_, rfl⟩
        obtain ⟨O, hO⟩ : ∃ O, visI ls = O := ⟨_, rfl⟩
        rw [hO] at H1
        have HPM2 : Hid (permB V = true) := Lib.hid (by rw [← hV]; exact HPM.out)
        have HIV : Hid (invE V = (invI V, 0)) := Lib.hid (by unfold invE; rw [if_pos HPM2.out]; rfl)
        have HIL : Hid ((invI V).length = k) := Lib.hid (by rw [invI_len, ← hV, HVL.out])
        have HIN2 : Hid (∀ a b : Nat, ((a : Int), (b : Int)) ∈ grpF ls ms → ∃ p : Nat, ∀ j, a ≤ j → j < b → (invI V)[j]? = some ((p + (j - a) : Nat) : Int)) := Lib.hid (by rw [← hV]; exact fun a b => HIN.out a b)
        have H2' : Hid (∀ W, Below wr.heap.size wr W → ∀ (A1 : Option Addr) (c1 : Nat), Rd W 1 A1 k (O.map (Value.int .i64)) → Calls Try.prog 9 #[.slice A1 k c1, .slice A k c, .slice B k d] W fun e w' => ∃ v, e = .returned (.tuple #[v, .int .i64 0]) ∧ w'.ownsRow W.heap.size 3 1 v k (V.map (Value.int .i64)) ∧ Below W.heap.size W w') := Lib.hid (by rw [← hO, ← hV]; exact H2.out)
        have H3 := Lib.hid (fun (W : World) (A2 : Option Addr) (c2 : Nat) (h2 : Rd W 1 A2 k (V.map (Value.int .i64))) => orPermutes_any A2 k c2 V W h2 (by omega))
        rw [HPM2.out] at H3
        have H4 := Lib.hid (fun (W : World) (A2 : Option Addr) (c2 : Nat) (h2 : Rd W 1 A2 k (V.map (Value.int .i64))) => roInverse_any A2 k c2 V W h2 (by omega))
        rw [HIV.out] at H4
        simp only [HIL.out] at H4
        obtain ⟨G, hG⟩ : ∃ G, grpF ls ms = G := ⟨_, rfl⟩
        rw [hG] at H5 hgl HMEM HIN2
        obtain ⟨r, hr⟩ : ∃ r, G.length = r := ⟨_, rfl⟩
        have HGL := Lib.hid hr
        rw [hr] at H5 hgl
        have hkk : ¬ (k : Int) < (k : Int) := by omega
        clear HPM HIN H2 hV hO hG hr hvl hlm hlt
        go_wp2_with (first
          | (go_at_call 15; refine H1.out.mono ?_; rintro e w1 ⟨v1, rfl, hv1, hb1⟩; obtain ⟨A1, c1, he1, _⟩ := own_form hv1; subst he1; have HR1 := Lib.hid (Rd.of_own hv1); have HB1 := Lib.hid hb1; clear hv1 hb1)
          | (go_at_call 9; refine (H2'.out _ HB1.out _ _ HR1.out).mono ?_; rintro e w2 ⟨v2, rfl, hv2, hb2⟩; obtain ⟨A2, c2, he2, _⟩ := own_form hv2; subst he2; have HR2 := Lib.hid (Rd.of_own hv2); have HB2 := Lib.hid (below_self HB1.out hb2); clear hv2 hb2)
          | (go_at_call 16; refine (H3.out _ _ _ HR2.out).mono ?_; rintro e w3 ⟨rfl, hb3⟩; have HR23 := Lib.hid (HR2.out.below hb3); have HB3 := Lib.hid (below_self HB2.out hb3); clear hb3)
          | (go_at_call 17; refine (H4.out _ _ _ HR23.out).mono ?_; rintro e w4 ⟨v4, rfl, hv4, hb4⟩; obtain ⟨A4, c4, he4, _⟩ := own_form hv4; subst he4; have HR4 := Lib.hid (Rd.of_own hv4); have HB4 := Lib.hid (below_self HB3.out hb4); clear hv4 hb4)
          | (go_at_call 12; refine (H5.out _ HB4.out).mono ?_; rintro e w5 ⟨v5, rfl, hv5, hb5⟩; obtain ⟨A5, c5, he5, _⟩ := own_form hv5; subst he5; have HR5 := Lib.hid (Rd.of_own hv5); have HR45 := Lib.hid (HR4.out.below hb5); have HB5 := Lib.hid (below_self HB4.out hb5); clear hv5 hb5)
          | fail)
        go_loopw [70] (fun i W => ∃ t : Nat, t ≤ r ∧ i = .int .i64 (t : Int) ∧ Below w5.heap.size w5 W) (fun i _ => r - (intOf i).toNat)
        case atStart => exact ⟨0, Nat.zero_le _, rfl, Below.refl _ _⟩
        case round =>
          rename World => WX
          obtain ⟨t, ht, rfl, hB⟩ := hrel
          have HB := Lib.hid hB
          clear hB
          by_cases hlt : t < r
          · obtain ⟨s, hs⟩ : ∃ s, G[t]? = some s := ⟨_, List.getElem?_eq_getElem (by rw [HGL.out]; exact hlt)⟩
            obtain ⟨a, b, rfl, hok⟩ := HMEM.out s (List.mem_of_getElem? hs)
            obtain ⟨p, hp⟩ := HIN2.out a b (List.mem_of_getElem? hs)
            obtain ⟨gd, rfl, hgb, c0, c1⟩ := (HR5.out.below HB.out).span hs
            simp only at c0 c1
            have HP := Lib.hid hp
            have hab := hok.lt
            have hbl : b ≤ k := by rw [← HL.out]; exact hok.le
            have hbx := heap_alloc_new WX (.cells #[.int .i64 (a : Int), .int .i64 (b : Int)] 31)
            have HBW := Lib.hid (below_new WX (.cells #[.int .i64 (a : Int), .int .i64 (b : Int)] 31))
            have HATX := Lib.hid ((HR45.out.below HB.out).below HBW.out)
            obtain ⟨bx, hbxe⟩ : ∃ bx, WX.heap.size = bx := ⟨_, rfl⟩
            obtain ⟨WB, hWB⟩ : ∃ WB, WX.alloc (.cells #[.int .i64 (a : Int), .int .i64 (b : Int)] 31) = WB := ⟨_, rfl⟩
            rw [hWB] at hbx HBW HATX
            rw [hbxe] at hbx
            have HBX := Lib.hid hbx
            have HWB := Lib.hid hWB
            have HBXE := Lib.hid hbxe
            obtain ⟨fd, rfl, _, _⟩ := HATX.out.at_ (show a < k by omega)
            have d0 := hp_cell (j := 0) (v := .int .i64 (a : Int)) (hWB ▸ hbxe ▸ hbx) rfl
            have hti : (t : Int) < (r : Int) := by omega
            obtain ⟨a1, ha1e⟩ : ∃ a1, a + 1 = a1 := ⟨_, rfl⟩
            have HA1 := Lib.hid ha1e
            have ha1 : (a : Int) + 1 = (a1 : Int) := by omega
            have ha5 : (a : Int) ≤ 100000 := by omega
            have hak : (a : Int) < (k : Int) := by omega
            have hk5 : (k : Int) ≤ 100 := by omega
            clear ha1e
            clear hbx hbxe hWB hp hs hok
            have n0 : WB.cell? ⟨bx, 0, none⟩ = some (.int .i64 (a : Int)) := hp_cell HBX.out rfl
            have n1 : WB.cell? ⟨bx, 1, none⟩ = some (.int .i64 (b : Int)) := hp_cell HBX.out rfl
            have HN0 := Lib.hid n0
            have HN1 := Lib.hid n1
            go_wp2_with fail
            rw [HBXE.out, HWB.out]
            clear d0
            go_loopw [13] (fun i wi => ∃ j z : Nat, a1 ≤ j ∧ j ≤ b ∧ i = .int .i64 (j : Int) ∧ wi = WB.drewN z) (fun i _ => b - (intOf i).toNat)
            case atStart => exact ⟨a1, 0, Nat.le_refl _, by have := HA1.out; omega, rfl, rfl⟩
            case round =>
              obtain ⟨j, z, hj1, hj2, rfl, rfl⟩ := hrel
              have n0 := HN0.out
              have n1 := HN1.out
              by_cases hjb : j < b
              · have pa := HP.out a (Nat.le_refl _) (by omega)
                have pj := HP.out j (by have := HA1.out; omega) hjb
                rw [Nat.sub_self, Nat.add_zero] at pa
                obtain ⟨q, hq⟩ : ∃ q, p + (j - a) = q := ⟨_, rfl⟩
                rw [hq] at pj
                have cpa := HATX.out.news a (.int .i64 (p : Int)) (by rw [List.getElem?_map, pa]; rfl)
                have cpj := HATX.out.news j (.int .i64 (q : Int)) (by rw [List.getElem?_map, pj]; rfl)
                have hpk : p < k := by have h2 := (List.getElem?_eq_some_iff.1 (at_invI HPM2.out pa)).1; rw [← invI_len, HIL.out] at h2; exact h2
                obtain ⟨q1, hq1⟩ : ∃ q1, p + j = q1 := ⟨_, rfl⟩
                have s1 : (p : Int) + (j : Int) = (q1 : Int) := by omega
                have s2 : (q1 : Int) - (a : Int) = (q : Int) := by have := HA1.out; omega
                have hji : (j : Int) < (b : Int) := by omega
                have hjk : (j : Int) < (k : Int) := by omega
                have gq : ((q : Int) != (q : Int)) = false := by simp
                have hq5 : (q1 : Int) ≤ 100000 := by omega
                clear pa pj hq hq1
                go_wp2_with fail
                go_quiet (fail)
                go_wp2
                go_roundw
                case rel => exact ⟨j + 1, z + nq, by omega, by omega, by go_num, by first | rfl | rw [World.drewN_drewN]⟩
                case measure => simp [intOf]; omega
              · obtain rfl : j = b := by omega
                have hjn : ¬ (j : Int) < (j : Int) := by omega
                have HBF := Lib.hid (HB.out.trans ((below_drewN HBW.out z).mono HB.out.size))
                go_wp2
                go_roundw
                case rel => exact ⟨t + 1, by omega, by go_num, HBF.out⟩
                case measure => simp [intOf]; omega
          · obtain rfl : t = r := by omega
            go_wp2_with (first
              | (go_at_call 8; refine (HAW.out _).mono ?_; rintro e w8 ⟨rfl, hb8⟩; have HB8 := Lib.hid (below_self (below_self HB5.out HB.out) hb8); clear hb8)
              | fail)
            go_ret
            exact ⟨rfl, HB8.out⟩
end Go.Proofs.Ytbnjflkafdkcpaa
