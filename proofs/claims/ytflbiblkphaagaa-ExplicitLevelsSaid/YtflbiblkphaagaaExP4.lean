/- explicit: Levels, walked. -/
import Derived.Test.YtflbiblkphaagaaExP3
import Derived.Test.YtflbiblkphaagaaExD2
import Derived.Test.YtflbiblkphaagaaJnFoM
import Derived.Test.YtflbiblkphaagaaPaM
namespace Go.Proofs.Ytflbiblkphaagaa
open Go.RowKit

/-- Both answers in memory. -/
structure TwoAt (w0 w : World) (ga gb : Nat) (la lb : List Int) : Prop where
  a : w.heap[ga]? = some (.cells (intsZ la).toArray 3 (0, 0))
  b : w.heap[gb]? = some (.cells (intsZ lb).toArray 3 (0, 0))
  ne : ga ≠ gb
  la : w0.heap.size ≤ ga
  lb : w0.heap.size ≤ gb
section
variable {w0 w w' : World} {ga gb : Nat} {la lb : List Int}
theorem TwoAt.kept {S : List Nat} (h : TwoAt w0 w ga gb la lb) (hk : Kept w w' S) (hs : ∀ x ∈ S, x ≠ ga ∧ x ≠ gb) : TwoAt w0 w' ga gb la lb :=
  ⟨hk.heap h.a (fun hm => (hs _ hm).1 rfl), hk.heap h.b (fun hm => (hs _ hm).2 rfl), h.ne, h.la, h.lb⟩
theorem TwoAt.setA (h : TwoAt w0 w ga gb la lb) (i : Nat) (x : Int) : TwoAt w0 (w.setCell ⟨ga, i, none⟩ (.int .i64 x)) ga gb (la.set i x) lb :=
  ⟨hp_row h.a i x, by rw [hp_far (fun e => h.ne e.symm)]; exact h.b, h.ne, h.la, h.lb⟩
theorem TwoAt.setB (h : TwoAt w0 w ga gb la lb) (i : Nat) (x : Int) : TwoAt w0 (w.setCell ⟨gb, i, none⟩ (.int .i64 x)) ga gb la (lb.set i x) :=
  ⟨by rw [hp_far h.ne]; exact h.a, hp_row h.b i x, h.ne, h.la, h.lb⟩
theorem rd_row {g n : Nat} {l : List Int} {t : TypeId} (h : w.heap[g]? = some (.cells (intsZ l).toArray t (0, 0))) (hl : l.length = n) : Rd w 1 (some ⟨g, 0, none⟩) n (l.map (Value.int .i64)) := by
  refine ⟨by simp [hl], fun _ => ⟨_, rfl, hp_lt h, fun j u hj => ?_⟩⟩
  rw [addNew]
  exact hp_cell h (by rw [List.getElem?_toArray]; exact hj)
end
theorem two_heap (w : World) (o0 o1 : Obj) : ((w.alloc o0).alloc o1).drew.heap[w.heap.size]? = some o0 ∧ ((w.alloc o0).alloc o1).drew.heap[w.heap.size + 1]? = some o1 ∧ Below w.heap.size w ((w.alloc o0).alloc o1).drew := by
  have h1 := heap_alloc_new (w.alloc o0) o1
  simp only [World.size_alloc] at h1
  simp only [heap_drew]
  refine ⟨?_, h1, (((Below.refl _ _).alloc (Nat.le_refl _) _).alloc (by simp) _).drew⟩
  rw [heap_alloc_old (h := by simp)]
  exact heap_alloc_new w _
/-- Writes to the answers' blocks leave who goes through. -/
theorem WlkAt.far {W w w' : World} {bw g n c mc ga gb : Nat} {A M : Option Addr} {xs : List Int} {base : Int} {s : Stk} (h : WlkAt w bw g A n c xs M mc base s) (hk : Kept w w' [ga, gb]) (h1 : ∀ x ∈ [g], x ≠ ga ∧ x ≠ gb) (h2 : bw ≠ ga ∧ bw ≠ gb)
    (hA : ∀ ad, 0 < n → A = some ad → ad.block < W.heap.size) (hM : ∀ ad, 0 < n → M = some ad → ad.block < W.heap.size) (hl : W.heap.size ≤ ga ∧ W.heap.size ≤ gb) : WlkAt w' bw g A n c xs M mc base s := by
  have hg := h1 g (by simp)
  have rdn : ∀ (B : Option Addr) (ys : List Int), (∀ ad, 0 < n → B = some ad → ad.block < W.heap.size) → RdN w g B n ys → RdN w' g B n ys := fun B ys hB hr => by
    refine ⟨⟨hr.1.1, fun hn => ?_⟩, hr.2⟩
    obtain ⟨ad, rfl, hb, hc⟩ := hr.1.2 hn
    have hbl := hB ad hn rfl
    refine ⟨ad, rfl, Nat.lt_of_lt_of_le hb hk.size, fun j u hu => ?_⟩
    have h1 := hc j u hu
    unfold World.cell? at h1 ⊢
    rw [show w'.heap[(ad.add j).block]? = w.heap[(ad.add j).block]? from by rw [blockAdd]; exact hk.block _ hb (by simp; omega)]
    exact h1
  exact ⟨hk.heap h.hw (by simp; exact h2), h.st.keep hk (by simp; exact hg), h.ne, rdn A xs hA h.cl, rdn M (matF xs) hM h.mt⟩
set_option maxRecDepth 100000 in
set_option maxHeartbeats 4000000 in
theorem exLevels_any (A : Option Addr) (n c : Nat) (xs : List Int) (level : Int) (w : World) (hr : Rd w 1 A n (xs.map (Value.int .i64))) (hn : n ≤ 100000) (hnc : n ≤ c) : Calls Try.prog 29 #[.slice A n c, .int .i64 level] w fun e w' => (∃ ga gb, e = .returned (.tuple #[.slice (some ⟨ga, 0, none⟩) n n, .slice (some ⟨gb, 0, none⟩) n n]) ∧ Rd w' 1 (some ⟨ga, 0, none⟩) n ((lvL xs (baseL level) n).map (Value.int .i64)) ∧ Rd w' 1 (some ⟨gb, 0, none⟩) n ((clL xs (baseL level) n).map (Value.int .i64))) ∧ Below w.heap.size w w' := by
  have hlen : xs.length = n := by simpa using hr.len1
  have HL := Lib.hid hlen
  have HR := Lib.hid hr
  have HFM : Hid (∀ y ∈ matF xs, Fit y) := Lib.hid (fun y hy => by have := mat_in hy; unfold Fit; omega)
  obtain ⟨base, hbase⟩ : ∃ base, baseL level = base := ⟨_, rfl⟩
  have HBS := Lib.hid (base_in level)
  rw [hbase] at HBS ⊢
  have hmm : min (max level 0) 1 = base := hbase
  obtain ⟨l0, hl0⟩ : ∃ l0, (if level < 0 then 0 else level) = l0 := ⟨_, rfl⟩
  have hmi : (if 1 < l0 then 1 else l0) = base := by
    rw [← hmm, ← hl0]
    repeat' split
    all_goals omega
  obtain ⟨g, hg⟩ : ∃ g, w.heap.size = g := ⟨_, rfl⟩
  have HG := Lib.hid hg
  have HN := Lib.hid (stkNew_any base w)
  have hns : newS base = stE xs base 0 := rfl
  rw [hg, hns] at HN
  have HBA := Lib.hid hbase
  rw [hg]
  have hmk := mk_intsZ n (by omega)
  clear hr hlen hg hns hbase hmm
  go_enter Try.func29, Try.ntmps29
  go_upto_region 2 with fail
  go_wp2_with fail
  refine HN.out.mono ?_
  rintro e w1 ⟨rfl, hA1, hb1⟩
  have HA1 := Lib.hid hA1
  have HB1 := Lib.hid hb1
  have HR1 := Lib.hid (HR.out.below (show Below w.heap.size w w1 by have := HG.out; subst this; exact hb1))
  clear hA1 hb1
  go_wp2_with fail
  refine (prMatches_any A n c xs w1 HR1.out hn).mono ?_
  rintro e w2 ⟨v, rfl, hown, hb2⟩
  obtain ⟨M, mc, rfl, hmc⟩ := own_form hown
  have HA2 := Lib.hid (HA1.out.low hb2)
  have HB2 : Hid (Below g w w2) := Lib.hid (by have := HG.out; subst this; exact below_self HB1.out hb2)
  have HM2 : Hid (RdN w2 g M n (matF xs)) := Lib.hid ⟨Rd.of_own hown, fun hn0 ad e => by
    subst e
    have := (hown.lt ad.block rfl).1
    have := HA1.out.lt
    omega⟩
  have HC2 : Hid (RdN w2 g A n xs) := Lib.hid ⟨HR1.out.below hb2, fun hn0 ad e => by
    obtain ⟨ad', e', hb, _⟩ := HR.out.2 hn0
    rw [e] at e'
    obtain rfl := Option.some.inj e'
    have := HG.out
    omega⟩
  obtain ⟨W, hW⟩ : ∃ W, w2.alloc (.cells #[.pointer (some ⟨g, 0, none⟩), .int .i64 base, .slice A n c, .slice M n mc] 68) = W := ⟨_, rfl⟩
  have hbn := below_new w2 (.cells #[.pointer (some ⟨g, 0, none⟩), .int .i64 base, .slice A n c, .slice M n mc] 68)
  have hh := heap_alloc_new w2 (.cells #[.pointer (some ⟨g, 0, none⟩), .int .i64 base, .slice A n c, .slice M n mc] 68)
  rw [hW] at hbn hh
  obtain ⟨bw, hbw⟩ : ∃ bw, w2.heap.size = bw := ⟨_, rfl⟩
  have hgw := HA2.out.lt
  rw [hbw] at hh hgw
  have HW : Hid (WlkAt W bw g A n c xs M mc base (stE xs base 0)) := Lib.hid ⟨hh, HA2.out.low hbn, by omega, HC2.out.kept (Kept.of_below hbn _), HM2.out.kept (Kept.of_below hbn _)⟩
  have HBW : Hid (Below g w W) := Lib.hid (by have := HG.out; subst this; exact below_self HB2.out hbn)
  clear hown hb2 hbn hh hgw hmi hl0
  go_upto_region 3 with fail
  go_cut [7, 8] (fun a b wx => ∃ ga gb, a = .slice (some ⟨ga, 0, none⟩) n n ∧ b = .slice (some ⟨gb, 0, none⟩) n n ∧ TwoAt W wx ga gb (List.replicate n 0) (List.replicate n 0) ∧ Below W.heap.size W wx)
  case first =>
    go_wp2_with fail
    go_region
    all_goals (
      go_wp2_with fail
      go_meet)
    all_goals first
      | exact ⟨_, _, rfl, rfl, ⟨(two_heap W _ _).1, (two_heap W _ _).2.1, by omega, by omega, by omega⟩, (two_heap W _ _).2.2⟩
      | exact ⟨_, _, rfl, rfl, ⟨(two_heap W _ _).2.1, (two_heap W _ _).1, by omega, by omega, by omega⟩, (two_heap W _ _).2.2⟩
  case rest =>
    obtain ⟨ga, gb, rfl, rfl, hT0, hbc⟩ := hcut
    clear hmk
    have HT0 : Hid (TwoAt W wc ga gb (lvZ xs base 0 n) (clZ xs base 0 n)) := Lib.hid (by rw [lvZ_zero, clZ_zero]; exact hT0)
    have HW0 := Lib.hid (HW.out.low hbc)
    have HB0 : Hid (Below g w wc) := Lib.hid (by have := HG.out; subst this; exact below_self HBW.out hbc)
    have hgW := HW.out.st.lt
    have hga : ga ≠ g := by have := hT0.la; omega
    have hgb : gb ≠ g := by have := hT0.lb; omega
    have HGA := Lib.hid (show ∀ x ∈ [g], x ≠ ga ∧ x ≠ gb by intro x hx; simp at hx; subst hx; exact ⟨fun e => hga e.symm, fun e => hgb e.symm⟩)
    have hwb : bw < W.heap.size := hp_lt HW.out.hw
    have hba : bw ≠ ga := by have := hT0.la; omega
    have hbb : bw ≠ gb := by have := hT0.lb; omega
    have HNB := Lib.hid (And.intro hba hbb)
    have HAR : Hid (∀ ad, 0 < n → A = some ad → ad.block < W.heap.size) := Lib.hid (fun ad hn0 e => by
      obtain ⟨ad', e', hb, _⟩ := HW.out.cl.1.2 hn0
      rw [e] at e'
      obtain rfl := Option.some.inj e'
      exact hb)
    have HMR : Hid (∀ ad, 0 < n → M = some ad → ad.block < W.heap.size) := Lib.hid (fun ad hn0 e => by
      obtain ⟨ad', e', hb, _⟩ := HW.out.mt.1.2 hn0
      rw [e] at e'
      obtain rfl := Option.some.inj e'
      exact hb)
    have HLA := Lib.hid (And.intro hT0.la hT0.lb)
    clear hT0 hbc hgW hwb hba hbb
    go_wp2_with fail
    go_loopw [30] (fun i wr => ∃ k : Nat, k ≤ n ∧ i = .int .i64 (k : Int) ∧ WlkAt wr bw g A n c xs M mc base (stE xs base k) ∧ TwoAt W wr ga gb (lvZ xs base k n) (clZ xs base k n) ∧ Below g w wr) (fun i _ => n - (intOf i).toNat)
    case atStart => exact ⟨0, Nat.zero_le _, rfl, HW0.out, HT0.out, HB0.out⟩
    case round =>
      obtain ⟨k, hk, rfl, hWk, hTk, hBk⟩ := hrel
      have HWk := Lib.hid hWk
      have HTk := Lib.hid hTk
      have HBk := Lib.hid hBk
      by_cases hlt : k < n
      · obtain ⟨x, hx⟩ : ∃ x, xs[k]? = some x := ⟨_, List.getElem?_eq_getElem (by rw [HL.out]; exact hlt)⟩
        have hxd : xs.getD k 0 = x := by rw [List.getD_eq_getElem?_getD, hx]; rfl
        obtain ⟨ad, rfl, hab, hcell⟩ := hWk.cl.1.at_ hlt
        have cx := hcell _ (by rw [List.getElem?_map, hx]; rfl)
        have HS := Lib.hid (exStep_any k x wr hWk ((few_st xs base k).up (by omega)) hx hn hnc HFM.out)
        have hkn : (k : Int) < (n : Int) := by omega
        have hk0 : (0 : Int) ≤ (k : Int) := by omega
        have HX := Lib.hid hxd
        clear hcell hx hxd hWk hTk hBk
        go_wp2_with fail
        refine HS.out.mono ?_
        rintro e w3 ⟨rfl, hA3, hk3⟩
        have hwk3 := HWk.out.kept hk3 hA3
        have HE : Hid (stepB xs k x (stepA (stE xs base k) x) = stE xs base (k + 1)) := Lib.hid (by rw [stE, HX.out])
        rw [HE.out] at hwk3
        have HEX : Hid (outX base (stepA (stE xs base k) x) x = exA xs base k) := Lib.hid (by unfold exA; rw [HX.out])
        rw [HEX.out]
        have hT3 := HTk.out.kept hk3 HGA.out
        have HB3 : Hid (Below g w w3) := Lib.hid (by have := HG.out; subst this; exact hk3.lower HBk.out HBk.out.size (by simp))
        have hT4 := hT3.setA k (exA xs base k).1
        rw [lvZ_step hlt] at hT4
        have hT5 := hT4.setB k (exA xs base k).2
        rw [clZ_step hlt] at hT5
        obtain ⟨ua, ca⟩ : ∃ u, w3.cell? ⟨ga, k, none⟩ = some u := ⟨_, hp_cell hT3.a (Array.getElem?_eq_getElem (by simp [intsZ, lvZ_len hk, hlt]))⟩
        have fa := hp_froz hT3.a k
        obtain ⟨ub, cb⟩ : ∃ u, w3.cell? ⟨gb, k, none⟩ = some u := ⟨_, hp_cell hT3.b (Array.getElem?_eq_getElem (by simp [intsZ, clZ_len hk, hlt]))⟩
        have fb := hp_froz hT3.b k
        have hne := hT3.ne
        have HT5 := Lib.hid hT5
        have HK5 : Hid (Kept w3 ((w3.setCell ⟨ga, k, none⟩ (.int .i64 (exA xs base k).1)).setCell ⟨gb, k, none⟩ (.int .i64 (exA xs base k).2)) [ga, gb]) := Lib.hid (((Kept.refl _ _).set (.inl (by simp)) k _).set (.inl (by simp)) k _)
        have HW3 := Lib.hid hwk3
        obtain ⟨p, hp⟩ : ∃ p, (exA xs base k).1 = p := ⟨_, rfl⟩
        obtain ⟨q, hq⟩ : ∃ q, (exA xs base k).2 = q := ⟨_, rfl⟩
        rw [hp, hq] at HT5 HK5
        rw [hp, hq]
        clear hA3 hk3 hwk3 hT3 hT4 hT5 hp hq
        go_wp2_with fail
        go_roundw
        case rel => exact ⟨k + 1, by omega, by go_num, HW3.out.far HK5.out HGA.out HNB.out HAR.out HMR.out HLA.out, HT5.out, by have := HG.out; subst this; exact HK5.out.lower HB3.out HB3.out.size (by have := HLA.out; have := HBW.out.size; simp; omega)⟩
        case measure => simp [intOf]; omega
      · obtain rfl : k = n := by omega
        have HRA := Lib.hid (rd_row hTk.a (lvZ_len (Nat.le_refl _)))
        have HRB := Lib.hid (rd_row hTk.b (clZ_len (Nat.le_refl _)))
        rw [lvZ_end] at HRA
        rw [clZ_end] at HRB
        clear hWk hTk hBk
        go_wp2
        exact bodyPost_ret (v := .tuple #[.slice (some ⟨ga, 0, none⟩) k k, .slice (some ⟨gb, 0, none⟩) k k]) (by simp [results, go_sem]) rfl ⟨⟨ga, gb, rfl, HRA.out, HRB.out⟩, HBk.out⟩
end Go.Proofs.Ytflbiblkphaagaa
