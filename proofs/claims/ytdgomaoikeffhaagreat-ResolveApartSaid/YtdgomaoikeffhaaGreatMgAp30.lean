/- Texts of one claim, one behind the other. -/
import Derived.Deep.RegionHeld3
import Derived.Deep.RegionWith
import Derived.Deep.RegionLaw
import Derived.Test.YtdgomaoikeffhaaGreatMgAp4
import Derived.Test.YtdgomaoikeffhaaGreatMgAp5
import Derived.Test.YtdgomaoikeffhaaGreatMgAp11
import Derived.Test.YtdgomaoikeffhaaGreatMgAp21
import Derived.Test.YtdgomaoikeffhaaGreatMgAp22
/- seq's sequence, walked. -/
namespace Go.Proofs.YtdgomaoikeffhaaGreat
open Go.RowKit

theorem AtRow.low {w wr w' : World} {X : Pg} {bs first g q cq : Nat} {P : List Nat} (h : AtRow w wr X bs first g q cq P) (hb : Below wr.heap.size wr w') : AtRow w w' X bs first g q cq P := ⟨own_below h.own hb, h.blk, h.pg.low hb, h.kept.trans (Kept.of_below hb _), h.len⟩
/-- Nothing is written but the four cells of one block. -/
structure BoxK (w5 w' : World) (g : Nat) : Prop where
  kept : Kept w5 w' [g]
  box : ∃ a b c d, w'.heap[g]? = some (.cells #[a, b, c, d] 61 (0, 0))
theorem BoxK.low {w5 wa wb : World} {g : Nat} (h : BoxK w5 wa g) (hb : Below wa.heap.size wa wb) : BoxK w5 wb g := by
  obtain ⟨a, b, c, d, h1⟩ := h.box
  exact ⟨h.kept.trans (Kept.of_below hb _), a, b, c, d, (hb.block _ (hp_lt h1)).trans h1⟩
theorem BoxK.cells {w5 w' : World} {g : Nat} (h : BoxK w5 w' g) : (∃ z, w'.cell? ⟨g, 0, none⟩ = some z) ∧ (∃ z, w'.cell? ⟨g, 1, none⟩ = some z) ∧ (∃ z, w'.cell? ⟨g, 2, none⟩ = some z) ∧ (∃ z, w'.cell? ⟨g, 3, none⟩ = some z) ∧ w'.frozen? ⟨g, 0, none⟩ = false ∧ w'.frozen? ⟨g, 1, none⟩ = false ∧ w'.frozen? ⟨g, 2, none⟩ = false ∧ w'.frozen? ⟨g, 3, none⟩ = false := by
  obtain ⟨a, b, c, d, h1⟩ := h.box
  exact ⟨⟨a, hp_cell h1 rfl⟩, ⟨b, hp_cell h1 rfl⟩, ⟨c, hp_cell h1 rfl⟩, ⟨d, hp_cell h1 rfl⟩, hp_froz h1 0, hp_froz h1 1, hp_froz h1 2, hp_froz h1 3⟩
theorem sq_far {w : World} {g : Nat} {x0 x1 x2 x3 : Value} {a : Addr} (hne : a.block ≠ g) : ((((w.setCell ⟨g, 0, none⟩ x0).setCell ⟨g, 1, none⟩ x1).setCell ⟨g, 2, none⟩ x2).setCell ⟨g, 3, none⟩ x3).cell? a = w.cell? a :=
  cellHeap (((hp_far hne _ _).trans (hp_far hne _ _)).trans ((hp_far hne _ _).trans (hp_far hne _ _)))
theorem sq_four {w : World} {b : Nat} {a0 a1 a2 a3 x0 x1 x2 x3 : Value} {t : TypeId} (h : w.heap[b]? = some (.cells #[a0, a1, a2, a3] t (0, 0))) : ((((w.setCell ⟨b, 0, none⟩ x0).setCell ⟨b, 1, none⟩ x1).setCell ⟨b, 2, none⟩ x2).setCell ⟨b, 3, none⟩ x3).heap[b]? = some (.cells #[x0, x1, x2, x3] t (0, 0)) := by
  have h1 : (w.setCell ⟨b, 0, none⟩ x0).heap[b]? = some (.cells #[x0, a1, a2, a3] t (0, 0)) := by rw [heap_setCell_same w b 0 _ _ _ h]; rfl
  have h2 : ((w.setCell ⟨b, 0, none⟩ x0).setCell ⟨b, 1, none⟩ x1).heap[b]? = some (.cells #[x0, x1, a2, a3] t (0, 0)) := by rw [heap_setCell_same _ b 1 _ _ _ h1]; rfl
  have h3 : (((w.setCell ⟨b, 0, none⟩ x0).setCell ⟨b, 1, none⟩ x1).setCell ⟨b, 2, none⟩ x2).heap[b]? = some (.cells #[x0, x1, x2, a3] t (0, 0)) := by rw [heap_setCell_same _ b 2 _ _ _ h2]; rfl
  rw [heap_setCell_same _ b 3 _ _ _ h3]; rfl
theorem BoxK.put {w5 w : World} {g : Nat} {x0 x1 x2 x3 : Value} (h : BoxK w5 w g) : BoxK w5 ((((w.setCell ⟨g, 0, none⟩ x0).setCell ⟨g, 1, none⟩ x1).setCell ⟨g, 2, none⟩ x2).setCell ⟨g, 3, none⟩ x3) g := by
  obtain ⟨a, b, c, d, h1⟩ := h.box
  have hm : g ∈ [g] := List.mem_singleton_self _
  exact ⟨(((h.kept.set (.inl hm) _ _).set (.inl hm) _ _).set (.inl hm) _ _).set (.inl hm) _ _, _, _, _, _, sq_four h1⟩
/-- What is left when the sequence lies in its box. -/
theorem AtRow.out {w W w9 : World} {X : Pg} {cl bf : List Int} {bs first g q cq : Nat} {P r1 Fn : List Nat} (h : AtRow W w9 X bs first g q cq P) (hE : PgAt w X) (hap : PgApart X) (ho : PgOk X cl bf) (hf : X.R[first]? = some r1) (hb0 : Below w.heap.size w W) (hsz : W.heap.size = w.heap.size + 1) (hbl : X.b first < w.heap.size) (hml : X.m < w.heap.size) (hnum : NumAt w9 X.m (X.n + 1) (freeF X.R Fn)) (x0 x1 x2 x3 : Value) : let wf := (((w9.setCell ⟨w.heap.size, 0, none⟩ x0).setCell ⟨w.heap.size, 1, none⟩ x1).setCell ⟨w.heap.size, 2, none⟩ x2).setCell ⟨w.heap.size, 3, none⟩ x3
    wf.ownsRow bs 3 1 (.slice (some ⟨g, 0, none⟩) q cq) q ((encN P).map (Value.int .i64)) ∧ (g = X.b first ∨ w.heap.size ≤ g) ∧ PgAt wf X ∧ NumAt wf X.m (X.n + 1) (freeF X.R Fn) ∧ Kept w wf [X.m, X.b first] := by
  intro wf
  have hg : w9.grownBy wf (some w.heap.size) := grown_set (grown_set (grown_set (grown_set (World.grownBy.refl w9 _) 0 x0) 1 x1) 2 x2) 3 x3
  have hne : (Value.slice (some ⟨g, 0, none⟩) q cq).ownBlock ≠ some w.heap.size := fun e => by
    simp only [Value.ownBlock, Option.some.injEq] at e
    rcases h.blk with e2 | e2 <;> omega
  have hk : Kept w w9 [X.m, X.b first] := (Kept.of_below hb0 _).trans h.kept
  refine ⟨own_set_far (own_set_far (own_set_far (own_set_far h.own hne) hne) hne) hne, ?_, h.pg.app hE hap ho hf (.inr (Nat.le_refl _)) hg (fun e => by omega), hnum.heap (hg.block _ hnum.lt (fun e => by have := Option.some.inj e; omega)), hk.grownN hg (fun x e => by have := Option.some.inj e; omega)⟩
  rcases h.blk with e2 | e2
  · exact .inl e2
  · exact .inr (by omega)
section
variable {X : Pg} {cl bf : List Int}
set_option maxRecDepth 100000 in
set_option maxHeartbeats 16000000 in
theorem sqSequence_any (bs first : Nat) (U Fn : List Nat) (w : World) (h : PgAt w X) (ho : PgOk X cl bf) (hap : PgApart X) (hm : NumAt w X.m (X.n + 1) (freeF X.R (U ++ [first]))) (hf : first < X.R.length) (hrow : ∀ r, X.R[first]? = some r → w.ownsRow bs 3 1 (.slice (some ⟨X.b first, 0, none⟩) r.length (X.cp first)) r.length ((encN r).map (Value.int .i64))) (hbs : bs ≤ w.heap.size) (hch : chF X.R bf (matF bf) (X.R.length + 1) (some first) U = Fn) (hfU : first ∉ U) (hnd : U.Nodup) (hbd : ∀ x ∈ U, x < X.R.length) :
    Calls Tryz.prog 42 #[.pointer (some ⟨X.pb, 0, none⟩), .int .i64 (first : Int)] w fun e w' => SeqAns w w' X bf cl bs first Fn U e := by
  obtain ⟨r1, hr1⟩ : ∃ r, X.R[first]? = some r := ⟨_, List.getElem?_eq_getElem hf⟩
  have hown := hrow r1 hr1
  obtain ⟨hne1, _⟩ := ho.runs.one r1 (List.mem_of_getElem? hr1)
  obtain ⟨la1, hla1⟩ : ∃ la, r1.getLast? = some la := by
    cases h : r1.getLast? with
    | none => exact absurd (List.getLast?_eq_none_iff.1 h) hne1
    | some la => exact ⟨la, rfl⟩
  have HE := Lib.hid h
  have HO := Lib.hid ho
  have HAP := Lib.hid hap
  have HR1 := Lib.hid hr1
  have hn5 := ho.n5
  obtain ⟨q1, hq1⟩ : ∃ q, r1.length = q + 1 := ⟨r1.length - 1, by have := List.length_pos_iff.2 hne1; omega⟩
  have hb0 := below_new w (.cells #[.slice none 0 0, .int .i64 0, .int .i64 0, .int .i64 0] 61)
  have hg4 := heap_alloc_new w (.cells #[.slice none 0 0, .int .i64 0, .int .i64 0, .int .i64 0] 61)
  obtain ⟨W, hW⟩ : ∃ W, w.alloc (.cells #[.slice none 0 0, .int .i64 0, .int .i64 0, .int .i64 0] 61) = W := ⟨_, rfl⟩
  rw [hW] at hb0 hg4
  have hpW := h.low hb0
  have hmW := hm.low hb0
  have hoW := own_below hown hb0
  have hmlt : X.m < w.heap.size := hm.lt
  have hblt : X.b first < w.heap.size := (h.rows first r1 hr1).blkLt (by omega) rfl
  have hpl1 : placesF X.R [first] = r1 := by unfold placesF; simp [hr1]
  have hrowW : AtRow W W X bs first (X.b first) (q1 + 1) (X.cp first) (placesF X.R [first]) := ⟨by rw [hpl1]; rwa [hq1] at hoW, .inl rfl, hpW, Kept.refl _ _, by rw [hpl1, hq1]⟩
  have hrl : r1.length ≤ X.n := by
    have h1 := run_split hr1
    have h2 : r1.length ≤ X.R.flatten.length := by rw [h1]; simp; omega
    rw [ho.runs.flat] at h2
    exact Nat.le_trans h2 (Nat.le_trans (List.length_filter_le _ _) (by simp))
  have HN1 := Lib.hid (sqNext_any (cq := X.cp first) first la1 q1 r1 r1 (U ++ [first]) (some ⟨X.b first, 0, none⟩) W hpW ho hmW hr1 hla1 (by have := hpW.rows first r1 hr1; rwa [hq1] at this) hla1 (by omega))
  have hch1 : chF X.R bf (matF bf) X.R.length (nxF X.R bf (matF bf) first) (U ++ [first]) = Fn := by rw [← hch, ch_more hfU]
  have HCH := Lib.hid hch1
  have hnd1 := nodup_snoc hnd hfU
  have hbd1 : ∀ x ∈ U ++ [first], x < X.R.length := fun x hx => by
    rcases List.mem_append.1 hx with h | h
    · exact hbd x h
    · rw [List.mem_singleton] at h; rw [h]; exact hf
  have HND := Lib.hid hnd1
  have HBD := Lib.hid hbd1
  have HROW := Lib.hid hrowW
  have HPW := Lib.hid hpW
  have HB0 := Lib.hid hb0
  have HG4 := Lib.hid hg4
  have HMW := Lib.hid (show X.m < W.heap.size from hmW.lt)
  have HMLT := Lib.hid hmlt
  have HBLT := Lib.hid hblt
  have HSW := Lib.hid (show W.heap.size = w.heap.size + 1 by rw [← hW, World.size_alloc])
  have HMO := Lib.hid hmW.obj
  have HHF := Lib.hid hf
  -- what the first two regions load
  have c2 := hp_cell (j := 2) hpW.box rfl
  obtain ⟨ra, hra, cr⟩ := hpW.runAt hr1
  rw [hra] at c2
  rw [hq1] at cr
  obtain ⟨N, hN⟩ : ∃ N, X.R.length = N := ⟨_, rfl⟩
  have hN5 : N ≤ 100000 := by
    have h1 : ∀ L : List (List Nat), (∀ x ∈ L, x ≠ []) → L.length ≤ L.flatten.length := fun L => by
      induction L with
      | nil => simp
      | cons a L ih =>
        intro h
        have h5 := ih (fun x hx => h x (by simp [hx]))
        have h6 : a.length ≠ 0 := fun e => h a (by simp) (List.eq_nil_of_length_eq_zero e)
        simp only [List.flatten_cons, List.length_append, List.length_cons]
        omega
    have h2 := h1 X.R (fun r hr => (ho.runs.one r hr).1)
    rw [ho.runs.flat] at h2
    have h3 := Nat.le_trans h2 (List.length_filter_le _ _)
    simp at h3
    omega
  rw [hN] at c2 hf
  have HNN := Lib.hid hN
  have HRA := Lib.hid hra
  have hfi : (first : Int) < (N : Int) := by omega
  have hf0 : (0 : Int) ≤ (first : Int) := by omega
  obtain ⟨o1, ho1⟩ : ∃ o, nextF X.R bf (U ++ [first]) first = o := ⟨_, rfl⟩
  rw [ho1] at HN1
  have HO1 := Lib.hid ho1
  clear h ho hap hm hrow hch hnd hbd hr1 hown hne1 hla1 hb0 hg4 hpW hmW hoW hmlt hblt hpl1 hrowW hch1 hnd1 hbd1 hra hN ho1 hq1 hrl
  obtain ⟨vo, hvo⟩ : ∃ v : Int, ((o1.getD 0 : Nat) : Int) = v := ⟨_, rfl⟩
  obtain ⟨bo, hbo⟩ : ∃ b, o1.isSome = b := ⟨_, rfl⟩
  rw [hvo, hbo] at HN1
  have HVO := Lib.hid hvo
  have HBO := Lib.hid hbo
  clear hvo hbo
  go_enter Tryz.func42, Tryz.ntmps42
  go_upto_region 1 with fail
  clear hW
  go_wp2_with fail
  refine HN1.out.mono ?_
  rintro e w2 ⟨rfl, hp2, hm2, hk2⟩
  have HC1 : Hid (ChAt W w2 X bf bs first U Fn [first] first o1 X.R.length (X.b first) (q1 + 1) (X.cp first)) := Lib.hid ⟨HROW.out.next hp2 hk2 HMO.out, hm2, rfl, rfl, HO1.out.symm, HCH.out, by simp, HND.out, HBD.out⟩
  clear c2 cr hp2 hm2 hk2
  go_wp2_with fail
  go_loopg [5, 6, 7, 8] X.R.length (fun f s5 s6 s7 s8 ws => ∃ ks lst o g q cq vo bo, s5 = .slice (some ⟨g, 0, none⟩) q cq ∧ s6 = .int .i64 ((lst : Nat) : Int) ∧ s7 = .int .i64 vo ∧ s8 = .bool bo ∧ ((Option.getD o 0 : Nat) : Int) = vo ∧ o.isSome = bo ∧ ChAt W ws X bf bs first U Fn ks lst o f g q cq)
  case atStart => exact ⟨[first], first, o1, _, _, _, vo, bo, rfl, rfl, rfl, rfl, HVO.out, HBO.out, HC1.out⟩
  case round =>
    obtain ⟨ks, lst, o, g, q, cq, vo', bo', rfl, rfl, rfl, rfl, hvo, hbo, hC⟩ := hrel
    have HC := Lib.hid hC
    have hlm : lst ∈ U ++ ks := List.mem_append_right _ (List.mem_of_getLast? hC.last)
    have hll : lst < X.R.length := hC.bd lst hlm
    obtain ⟨rl, hrl⟩ : ∃ r, X.R[lst]? = some r := ⟨_, List.getElem?_eq_getElem hll⟩
    obtain ⟨hnel, _⟩ := HO.out.runs.one rl (List.mem_of_getElem? hrl)
    obtain ⟨la, hla⟩ : ∃ la, rl.getLast? = some la := by
      cases h : rl.getLast? with
      | none => exact absurd (List.getLast?_eq_none_iff.1 h) hnel
      | some la => exact ⟨la, rfl⟩
    have hPl := last_places hC.last hrl hla
    have hPn : placesF X.R ks ≠ [] := fun e => by rw [e] at hPl; simp at hPl
    have hpl : (placesF X.R ks).length ≤ X.n := by
      have h1 := places_len (R := X.R) (V := ks) (List.nodup_append.1 hC.nd).2.1 (fun x hx => hC.bd x (List.mem_append_right _ hx))
      rw [HO.out.runs.flat] at h1
      exact Nat.le_trans h1 (Nat.le_trans (List.length_filter_le _ _) (by simp))
    have hqq := hC.row.len
    have hq0 : 0 < q := by rw [← hqq]; exact List.length_pos_iff.2 hPn
    have hq5 : q ≤ 100000 := by rw [← hqq]; exact Nat.le_trans hpl hn5
    have HRL := Lib.hid hrl
    have HLA := Lib.hid hla
    have HPL := Lib.hid hPl
    have HPN := Lib.hid hPn
    have HLL := Lib.hid hll
    have HLAN := Lib.hid (show la < X.n from HO.out.runs.lt (List.mem_of_getElem? hrl) (List.mem_of_getLast? hla))
    have hlN : lst < N := by rw [← HNN.out]; exact hll
    have hl5 : (lst : Int) ≤ 100000 := by omega
    have hl0 : (0 : Int) ≤ (lst : Int) := by omega
    cases o with
    | some j =>
      obtain ⟨hjx, hjn⟩ := nextF_some hC.nxt
      obtain ⟨f', rfl, hch2, hfu2, hnd2, hbd2, hjl⟩ := ch_step hjx hjn hC.ch hC.fu hC.nd hC.bd
      simp only [Option.getD_some, Option.isSome_some] at hvo hbo
      subst hvo hbo
      obtain ⟨r2, hr2⟩ : ∃ r, X.R[j]? = some r := ⟨_, List.getElem?_eq_getElem hjl⟩
      obtain ⟨hne2, _⟩ := HO.out.runs.one r2 (List.mem_of_getElem? hr2)
      obtain ⟨la2, hla2⟩ : ∃ la, r2.getLast? = some la := by
        cases h : r2.getLast? with
        | none => exact absurd (List.getLast?_eq_none_iff.1 h) hne2
        | some la => exact ⟨la, rfl⟩
      have hpl2 : (placesF X.R (ks ++ [j])).length ≤ X.n := by
        have h1 := places_len (R := X.R) (V := ks ++ [j]) (by rw [← List.append_assoc] at hnd2; rw [List.append_assoc] at hnd2; exact (List.nodup_append.1 hnd2).2.1) (fun x hx => hbd2 x (by
          rw [List.mem_append]; exact .inr hx))
        rw [HO.out.runs.flat] at h1
        exact Nat.le_trans h1 (Nat.le_trans (List.length_filter_le _ _) (by simp))
      have hpm := placesF_more (ks := ks) hr2
      have c2 := hp_cell (j := 2) hC.row.pg.box rfl
      obtain ⟨ra', hra', cr⟩ := hC.row.pg.runAt hr2
      rw [hra', HNN.out] at c2
      obtain ⟨p2, hp2⟩ : ∃ p, r2.length = p := ⟨_, rfl⟩
      have hp20 : 0 < p2 := by rw [← hp2]; exact List.length_pos_iff.2 hne2
      have hqp : q + p2 ≤ 100000 := by
        rw [hpm, List.length_append, hqq, hp2] at hpl2
        omega
      have hrd2 := hC.row.pg.rows j r2 hr2
      rw [hp2] at cr hrd2
      have hown := hC.row.own
      have HOWN := Lib.hid hown
      have HRD2 := Lib.hid hrd2
      have HP2 := Lib.hid hp2
      have HPM := Lib.hid hpm
      have hjN : (j : Int) < (N : Int) := by rw [← HNN.out]; omega
      have hj0 : (0 : Int) ≤ (j : Int) := by omega
      have hbsz : bs ≤ wr.heap.size := by have := hC.row.kept.size; have := HSW.out; omega
      obtain ⟨q2, hq2⟩ : ∃ q2, q + p2 = q2 + 1 := ⟨q + p2 - 1, by omega⟩
      have HQ2 := Lib.hid hq2
      have hq25 : q2 ≤ 100000 := by omega
      have HR2 := Lib.hid hr2
      have HLA2 := Lib.hid hla2
      have HCH2 := Lib.hid hch2
      have HFU2 := Lib.hid hfu2
      have HND2 := Lib.hid hnd2
      have HBD2 := Lib.hid hbd2
      clear hC hlm hll hrl hnel hla hPl hPn hpl hqq hlN hl5 hl0 hjx hjn hch2 hfu2 hnd2 hbd2 hjl hr2 hne2 hla2 hpl2 hpm hra' hp2 hrd2 hown hq2
      go_wp2_with (first
        | (at_builtin; go_loud (refine wpList_appK rfl _ _ _ rfl intSliceM (by decide) (.slice (some ⟨g, 0, none⟩) q cq) q hq0 _ rfl HOWN.out ⟨X.b j, 0, none⟩ p2 (X.cp j) ((encN r2).map (Value.int .i64)) rfl HRD2.out (oneEnc r2) (by omega) (by unfold maxLen; omega) hbsz ?_; intro v6 w6 hown6 hg6 hat6; obtain ⟨g6, c6, rfl, hR6, _⟩ := HC.out.row.app HPW.out HAP.out HO.out HR1.out (head_places HC.out.head HR1.out) hown6 (by rw [HP2.out]) (by omega) hg6 hat6))
        | fail)
      have hM6 : NumAt w6 X.m (X.n + 1) (freeF X.R (U ++ (ks ++ [j]))) := by
        have h1 := HC.out.num.app HMW.out HAP.out HHF.out HC.out.row.blk hg6
        simpa using h1
      rw [HQ2.out, ← HPM.out] at hR6
      have hN6 := sqNext_any (cq := c6) j la2 q2 (placesF X.R (ks ++ [j])) r2 (U ++ (ks ++ [j])) (some ⟨g6, 0, none⟩) w6 hR6.pg HO.out hM6 HR2.out HLA2.out (Rd.of_own hR6.own) (last_places (by simp) HR2.out HLA2.out) (by omega)
      rw [HQ2.out]
      obtain ⟨o2, ho2⟩ : ∃ o, nextF X.R bf (U ++ (ks ++ [j])) j = o := ⟨_, rfl⟩
      rw [ho2] at hN6
      obtain ⟨vo2, hvo2⟩ : ∃ v : Int, ((o2.getD 0 : Nat) : Int) = v := ⟨_, rfl⟩
      obtain ⟨bo2, hbo2⟩ : ∃ b, o2.isSome = b := ⟨_, rfl⟩
      rw [hvo2, hbo2] at hN6
      have HVO2 := Lib.hid hvo2
      have HBO2 := Lib.hid hbo2
      have HO2 := Lib.hid ho2
      have HN6 := Lib.hid hN6
      have HR6 := Lib.hid hR6
      have HM6 := Lib.hid hM6
      clear hN6 hR6 hM6 hvo2 hbo2 ho2 hown6 hg6 hat6 c2 cr
      go_wp2_with fail
      refine HN6.out.mono ?_
      rintro e w7 ⟨rfl, hp7, hm7, hk7⟩
      have HC7 : Hid (ChAt W w7 X bf bs first U Fn (ks ++ [j]) j o2 f' g6 (q2 + 1) c6) := Lib.hid ⟨HR6.out.next hp7 hk7 HM6.out.obj, hm7, by simp, by rw [List.head?_append, HC.out.head]; rfl, HO2.out.symm, HCH2.out, HFU2.out, HND2.out, HBD2.out⟩
      clear hp7 hm7 hk7
      go_wp2_with fail
      go_roundg f'
      case rel => exact ⟨ks ++ [j], j, o2, _, _, _, vo2, bo2, rfl, rfl, rfl, rfl, HVO2.out, HBO2.out, HC7.out⟩
      case measure => omega
    | none =>
      simp only [Option.getD_none, Option.isSome_none] at hvo hbo
      subst hvo hbo
      have hfin : U ++ ks = Fn := by rw [← hC.ch]; exact (ch_stop (nextF_none hC.nxt)).symm
      have hnum : NumAt wr X.m (X.n + 1) (freeF X.R Fn) := by
        have := hC.num
        simpa [hfin] using this
      obtain ⟨q', hq'⟩ : ∃ q', q = q' + 1 := ⟨q - 1, by omega⟩
      subst hq'
      have hown := hC.row.own
      obtain ⟨_, _, e9, _, _, hb9, hc9⟩ := own_at hown (by omega)
      injection e9 with e9a _ e9b
      injection e9a with e9a
      injection e9a with e9a
      subst e9a e9b
      have cla := hc9 q' (.int .i64 (la : Int)) (by
        unfold encN
        rw [List.getElem?_map, List.getElem?_map, show (placesF X.R ks)[q']? = some la by rw [← hPl, List.getLast?_eq_getElem?, hqq]; rfl]
        rfl)
      obtain ⟨fi, hfi⟩ : ∃ f, (placesF X.R ks).head? = some f := by
        cases hh : placesF X.R ks with
        | nil => exact absurd hh hPn
        | cons a t => exact ⟨a, rfl⟩
      have cfi := hc9 0 (.int .i64 (fi : Int)) (by
        cases hh : placesF X.R ks with
        | nil => exact absurd hh hPn
        | cons a t => rw [hh] at hfi; simp at hfi; subst hfi; rfl)
      have hfr : r1.head? = some fi := by
        obtain ⟨t, ht⟩ := head_places hC.head HR1.out
        rw [ht] at hfi
        cases hh : r1 with
        | nil => exact absurd hh (HO.out.runs.one r1 (List.mem_of_getElem? HR1.out)).1
        | cons a t2 => rw [hh] at hfi; simpa using hfi
      have hfn : fi < X.n := HO.out.runs.lt (List.mem_of_getElem? HR1.out) (List.mem_of_head? hfr)
      obtain ⟨lvf, hlvf⟩ : ∃ y, X.lv[fi]? = some y := ⟨_, List.getElem?_eq_getElem (by rw [HO.out.len]; exact hfn)⟩
      obtain ⟨lvl, hlvl⟩ : ∃ y, X.lv[la]? = some y := ⟨_, List.getElem?_eq_getElem (by rw [HO.out.len]; exact HLAN.out)⟩
      obtain ⟨y, hy⟩ : ∃ y, X.mt[la]? = some y := ⟨_, List.getElem?_eq_getElem (by have := hC.row.pg.mtr.len1; simp at this; rw [this]; exact HLAN.out)⟩
      have hyd : (matF bf).getD la 0 = y := by rw [← HO.out.mat, List.getD_eq_getElem?_getD, hy]; rfl
      have hbh := HO.out.runs.behind HO.out.len X.level hrl hla
      have hah := HO.out.runs.ahead X.level HR1.out hfr
      obtain ⟨BH, hBH⟩ : ∃ b, bhF X.lv cl X.level (la + 1) = b := ⟨_, rfl⟩
      obtain ⟨AH, hAH⟩ : ∃ b, ahF X.lv cl X.level fi = b := ⟨_, rfl⟩
      rw [hBH] at hbh
      rw [hAH] at hah
      have HL1 := Lib.hid (fun W' (h : PgAt W' X) => sqLevelOf_any ((lst : Int) + 1) BH W' h HO.out (by omega) (by omega) hbh.symm)
      have HL2 := Lib.hid (fun W' (h : PgAt W' X) => sqLevelOf_any ((first : Int) - 1) AH W' h HO.out (by omega) (by omega) hah.symm)
      obtain ⟨SO, hSO⟩ : ∃ d, dirF lvf AH = d := ⟨_, rfl⟩
      have HD1 := Lib.hid (fun W' => sqDir_any lvf AH SO hSO W')
      have hans : ∀ EN, (EN = if y = (X.n : Int) then dirF lvl X.level else dirF lvl BH) → sqAns X.lv cl bf (matF bf) X.level (placesF X.R ks) = ⟨placesF X.R ks, lvf, SO, EN⟩ := fun EN hEN => by
        rw [sqAns_of (fi := fi) (la := la) (lvf := lvf) (lvl := lvl) (x := bf.getD la 0) (by rw [List.headD_eq_head?_getD, hfi]; rfl) (by rw [List.getLastD_eq_getLast?, hPl]; rfl) (by rw [List.getD_eq_getElem?_getD, hlvf]; rfl) (by rw [List.getD_eq_getElem?_getD, hlvl]; rfl) rfl, hAH, hBH, hSO, hEN]
        have hme := mat_end (bf := bf) (la := la) (by rw [HO.out.blen]; exact HLAN.out)
        rw [hyd, HO.out.blen] at hme ⊢
        by_cases e : y = (X.n : Int)
        · rw [if_pos (hme.1 e), if_pos e]
        · rw [if_neg (fun h => e (hme.2 h)), if_neg e]
      have HANS := Lib.hid hans
      have HFIN := Lib.hid hfin
      have HNUM := Lib.hid hnum
      have HROW2 := Lib.hid hC.row
      have hg4 : wr.heap[w.heap.size]? = some (.cells #[.slice none 0 0, .int .i64 0, .int .i64 0, .int .i64 0] 61 (0, 0)) := (hC.row.kept.block _ (by have := HSW.out; omega) (fun hm => by
        simp only [List.mem_cons, List.not_mem_nil, or_false] at hm
        have := HMLT.out
        have := HBLT.out
        omega)).trans HG4.out
      have HG4r := Lib.hid hg4
      have HLVF := Lib.hid hlvf
      have HLVL := Lib.hid hlvl
      have HY := Lib.hid hy
      have HFN := Lib.hid hfn
      have hln : (la : Int) < (X.n : Int) := by have := HLAN.out; omega
      have hfni : (fi : Int) < (X.n : Int) := by omega
      have hla0 : (0 : Int) ≤ (la : Int) := by omega
      have hfi0 : (0 : Int) ≤ (fi : Int) := by omega
      have hq0i : (0 : Int) ≤ (q' : Int) := by omega
      have hq1i : (q' : Int) < (q' : Int) + 1 := by omega
      have hq5i : (q' : Int) ≤ 100000 := by omega
      have hl1 : IntKind.i64.wrap ((lst : Int) + 1) = (lst : Int) + 1 := by rw [IntKind.wrap_i64]; omega
      have hf1 : IntKind.i64.wrap ((first : Int) - 1) = (first : Int) - 1 := by rw [IntKind.wrap_i64]; omega
      clear hC hlm hll hrl hnel hla hPl hPn hpl hqq hfin hnum hown hc9 hfi hfr hfn hlvf hlvl hy hyd hbh hah hBH hAH hSO hans hg4
      go_wp2_with fail
      refine (HL1.out _ HROW2.out.pg).mono ?_
      rintro e w3 ⟨rfl, hb3⟩
      have cfi3 := cell_below hb3 cfi
      have HROW3 := Lib.hid (HROW2.out.low hb3)
      have HNUM3 := Lib.hid (HNUM.out.low hb3)
      have HG43 := Lib.hid ((hb3.block _ (hp_lt HG4r.out)).trans HG4r.out)
      have c4 := hp_cell (j := 4) HROW3.out.pg.box rfl
      obtain ⟨am, ham, _, hcm⟩ := HROW3.out.pg.mtr.at_ HLAN.out
      have cy := hcm _ (by rw [List.getElem?_map, HY.out]; rfl)
      rw [ham] at c4
      clear cla cfi hb3 hcm
      by_cases hye : y = (X.n : Int)
      · have gye : (y == (X.n : Int)) = true := by simp [hye]
        obtain ⟨EN, hEN⟩ : ∃ d, dirF lvl X.level = d := ⟨_, rfl⟩
        have HD2 := Lib.hid (fun W' => sqDir_any lvl X.level EN hEN W')
        have HEV := Lib.hid (HANS.out EN (by rw [if_pos hye, hEN]))
        clear hye hEN
        go_wp2_with fail
        go_quiet (fail)
        obtain ⟨w4, hw4⟩ : ∃ W, w3.drewN nq = W := ⟨_, rfl⟩
        have hb4 := below_drewN (Below.refl w3.heap.size w3) nq
        have cfi4 := cell_below hb4 cfi3
        have HROW4 := Lib.hid (HROW3.out.low hb4)
        have HNUM4 := Lib.hid (HNUM3.out.low hb4)
        have HG44 := Lib.hid ((hb4.block _ (hp_lt HG43.out)).trans HG43.out)
        rw [hw4] at cfi4 HROW4 HNUM4 HG44 ⊢
        have c0 := hp_cell (j := 0) HROW4.out.pg.box rfl
        have c1 := hp_cell (j := 1) HROW4.out.pg.box rfl
        obtain ⟨al, hal, _, hcl⟩ := HROW4.out.pg.lvr.at_ HFN.out
        have clf := hcl _ (by rw [List.getElem?_map, HLVF.out]; rfl)
        rw [hal] at c1
        clear hw4 hb4 cfi3 c4 cy hcl
        go_wp2_with fail
        go_quiet (fail)
        obtain ⟨w5, hw5⟩ : ∃ W, w4.drewN nq = W := ⟨_, rfl⟩
        have hb5 := below_drewN (Below.refl w4.heap.size w4) nq
        have HROW5 := Lib.hid (HROW4.out.low hb5)
        have HNUM5 := Lib.hid (HNUM4.out.low hb5)
        have HG45 := Lib.hid ((hb5.block _ (hp_lt HG44.out)).trans HG44.out)
        rw [hw5] at HROW5 HNUM5 HG45 ⊢
        clear hw5 hb5 cfi4 c0 c1 clf
        have c1 := hp_cell (j := 1) HROW5.out.pg.box rfl
        obtain ⟨al2, hal2, _, hcl⟩ := HROW5.out.pg.lvr.at_ HLAN.out
        have cll := hcl _ (by rw [List.getElem?_map, HLVL.out]; rfl)
        rw [hal2] at c1
        clear hcl
        go_upto_region 11 with fail
        have hbk : BoxK w5 w5 w.heap.size := ⟨Kept.refl _ _, _, _, _, _, HG45.out⟩
        have hpbn : X.pb ≠ w.heap.size := by have := hp_lt HE.out.box; omega
        have haln : (al2.add la).block ≠ w.heap.size := by rw [blockAdd]; have := HE.out.lvr.blkLt (by omega) hal2; omega
        go_region_held3 (fun w' => w'.cell? ⟨X.pb, 1, none⟩ = some (.slice (some al2) X.n X.c) ∧ w'.cell? (al2.add la) = some (.int .i64 lvl) ∧ BoxK w5 w' w.heap.size)
          (first
            | exact ⟨c1, cll, hbk.low (Below.refl _ _).drew⟩
            | exact ⟨cell_below h1 (by assumption : _ ∧ _ ∧ BoxK w5 _ _).1, cell_below h1 (by assumption : _ ∧ _ ∧ BoxK w5 _ _).2.1, (by assumption : _ ∧ _ ∧ BoxK w5 _ _).2.2.low h1⟩
            | exact ⟨cell_below h1 c1, cell_below h1 cll, (hbk.low (Below.refl _ _).drew).low h1⟩
            | assumption
            | exact ⟨(sq_far hpbn).trans (by assumption : _ ∧ _ ∧ BoxK w5 _ _).1, (sq_far haln).trans (by assumption : _ ∧ _ ∧ BoxK w5 _ _).2.1, (by assumption : _ ∧ _ ∧ BoxK w5 _ _).2.2.put⟩
            | fail)
          (first
            | (go_at_call 60; refine (HL2.out _ (HROW5.out.pg.low (Below.refl _ _).drew)).mono ?_; rintro e w9 ⟨rfl, h1⟩; obtain ⟨⟨z0, y0⟩, ⟨z1, y1⟩, ⟨z2, y2⟩, ⟨z3, y3⟩, f0, f1, f2, f3⟩ := ((hbk.low (Below.refl _ _).drew).low h1).cells)
            | (go_at_call 61; refine (HD1.out _).mono ?_; rintro e w10 ⟨rfl, rfl⟩)
            | (go_at_call 61; refine (HD2.out _).mono ?_; rintro e w11 ⟨rfl, rfl⟩)
            | fail)
        have hb9 := below_of_drew (by assumption : Below w5.drew.heap.size w5.drew w9)
        obtain ⟨p1, p2, p3, p4, p5⟩ := (HROW5.out.low hb9).out HE.out HAP.out HO.out HR1.out HB0.out HSW.out HBLT.out HMLT.out (HNUM5.out.low hb9) (.slice (some ⟨g, 0, none⟩) (q' + 1) cq) (.int .i64 lvf) (.int .i64 SO) (.int .i64 EN)
        have hG9 := (hb9.block _ (hp_lt HG45.out)).trans HG45.out
        have hbx := sq_four (x0 := .slice (some ⟨g, 0, none⟩) (q' + 1) cq) (x1 := .int .i64 lvf) (x2 := .int .i64 SO) (x3 := .int .i64 EN) hG9
        have HFINAL := Lib.hid (⟨ks, g, q' + 1, cq, _, HFIN.out.symm, fun e => HPN.out (by rw [e]; rfl), HPN.out, HROW2.out.len, HEV.out, rfl, rfl, p1, p2, p3, p4, p5⟩ : SeqAns w _ X bf cl bs first Fn U (.returned (.agg #[.slice (some ⟨g, 0, none⟩) (q' + 1) cq, .int .i64 lvf, .int .i64 SO, .int .i64 EN])))
        clear p1 p2 p3 p4 p5 hb9 hG9
        go_wp2_with fail
        refine bodyPost_ret (v := .agg #[.slice (some ⟨g, 0, none⟩) (q' + 1) cq, .int .i64 lvf, .int .i64 SO, .int .i64 EN]) (results_cell_row rfl _ _ w.heap.size 61 #[.slice (some ⟨g, 0, none⟩) (q' + 1) cq, .int .i64 lvf, .int .i64 SO, .int .i64 EN] (0, 0) _ rfl hbx Tryz.underlying61 rfl (by kernel_rfl)) rfl ?_
        exact HFINAL.out
      · have gye : (y == (X.n : Int)) = false := by simp [hye]
        obtain ⟨EN, hEN⟩ : ∃ d, dirF lvl BH = d := ⟨_, rfl⟩
        have HD2 := Lib.hid (fun W' => sqDir_any lvl BH EN hEN W')
        have HEV := Lib.hid (HANS.out EN (by rw [if_neg hye, hEN]))
        clear hye hEN
        go_wp2_with fail
        go_quiet (fail)
        obtain ⟨w4, hw4⟩ : ∃ W, w3.drewN nq = W := ⟨_, rfl⟩
        have hb4 := below_drewN (Below.refl w3.heap.size w3) nq
        have cfi4 := cell_below hb4 cfi3
        have HROW4 := Lib.hid (HROW3.out.low hb4)
        have HNUM4 := Lib.hid (HNUM3.out.low hb4)
        have HG44 := Lib.hid ((hb4.block _ (hp_lt HG43.out)).trans HG43.out)
        rw [hw4] at cfi4 HROW4 HNUM4 HG44 ⊢
        have c1 := hp_cell (j := 1) HROW4.out.pg.box rfl
        obtain ⟨al, hal, _, hcl⟩ := HROW4.out.pg.lvr.at_ HFN.out
        have clf := hcl _ (by rw [List.getElem?_map, HLVF.out]; rfl)
        rw [hal] at c1
        clear hw4 hb4 cfi3 c4 cy hcl
        go_wp2_with fail
        go_quiet (fail)
        obtain ⟨w5, hw5⟩ : ∃ W, w4.drewN nq = W := ⟨_, rfl⟩
        have hb5 := below_drewN (Below.refl w4.heap.size w4) nq
        have HROW5 := Lib.hid (HROW4.out.low hb5)
        have HNUM5 := Lib.hid (HNUM4.out.low hb5)
        have HG45 := Lib.hid ((hb5.block _ (hp_lt HG44.out)).trans HG44.out)
        rw [hw5] at HROW5 HNUM5 HG45 ⊢
        clear hw5 hb5 cfi4 c1 clf
        have c1 := hp_cell (j := 1) HROW5.out.pg.box rfl
        obtain ⟨al2, hal2, _, hcl⟩ := HROW5.out.pg.lvr.at_ HLAN.out
        have cll := hcl _ (by rw [List.getElem?_map, HLVL.out]; rfl)
        rw [hal2] at c1
        clear hcl
        go_upto_region 11 with fail
        have hbk : BoxK w5 w5 w.heap.size := ⟨Kept.refl _ _, _, _, _, _, HG45.out⟩
        have hpbn : X.pb ≠ w.heap.size := by have := hp_lt HE.out.box; omega
        have haln : (al2.add la).block ≠ w.heap.size := by rw [blockAdd]; have := HE.out.lvr.blkLt (by omega) hal2; omega
        go_region_held3 (fun w' => w'.cell? ⟨X.pb, 1, none⟩ = some (.slice (some al2) X.n X.c) ∧ w'.cell? (al2.add la) = some (.int .i64 lvl) ∧ BoxK w5 w' w.heap.size)
          (first
            | exact ⟨c1, cll, hbk.low (Below.refl _ _).drew⟩
            | exact ⟨cell_below h1 (by assumption : _ ∧ _ ∧ BoxK w5 _ _).1, cell_below h1 (by assumption : _ ∧ _ ∧ BoxK w5 _ _).2.1, (by assumption : _ ∧ _ ∧ BoxK w5 _ _).2.2.low h1⟩
            | exact ⟨cell_below h1 c1, cell_below h1 cll, (hbk.low (Below.refl _ _).drew).low h1⟩
            | assumption
            | exact ⟨(sq_far hpbn).trans (by assumption : _ ∧ _ ∧ BoxK w5 _ _).1, (sq_far haln).trans (by assumption : _ ∧ _ ∧ BoxK w5 _ _).2.1, (by assumption : _ ∧ _ ∧ BoxK w5 _ _).2.2.put⟩
            | fail)
          (first
            | (go_at_call 60; refine (HL2.out _ (HROW5.out.pg.low (Below.refl _ _).drew)).mono ?_; rintro e w9 ⟨rfl, h1⟩; obtain ⟨⟨z0, y0⟩, ⟨z1, y1⟩, ⟨z2, y2⟩, ⟨z3, y3⟩, f0, f1, f2, f3⟩ := ((hbk.low (Below.refl _ _).drew).low h1).cells)
            | (go_at_call 61; refine (HD1.out _).mono ?_; rintro e w10 ⟨rfl, rfl⟩)
            | (go_at_call 61; refine (HD2.out _).mono ?_; rintro e w11 ⟨rfl, rfl⟩)
            | fail)
        have hb9 := below_of_drew (by assumption : Below w5.drew.heap.size w5.drew w9)
        obtain ⟨p1, p2, p3, p4, p5⟩ := (HROW5.out.low hb9).out HE.out HAP.out HO.out HR1.out HB0.out HSW.out HBLT.out HMLT.out (HNUM5.out.low hb9) (.slice (some ⟨g, 0, none⟩) (q' + 1) cq) (.int .i64 lvf) (.int .i64 SO) (.int .i64 EN)
        have hG9 := (hb9.block _ (hp_lt HG45.out)).trans HG45.out
        have hbx := sq_four (x0 := .slice (some ⟨g, 0, none⟩) (q' + 1) cq) (x1 := .int .i64 lvf) (x2 := .int .i64 SO) (x3 := .int .i64 EN) hG9
        have HFINAL := Lib.hid (⟨ks, g, q' + 1, cq, _, HFIN.out.symm, fun e => HPN.out (by rw [e]; rfl), HPN.out, HROW2.out.len, HEV.out, rfl, rfl, p1, p2, p3, p4, p5⟩ : SeqAns w _ X bf cl bs first Fn U (.returned (.agg #[.slice (some ⟨g, 0, none⟩) (q' + 1) cq, .int .i64 lvf, .int .i64 SO, .int .i64 EN])))
        clear p1 p2 p3 p4 p5 hb9 hG9
        go_wp2_with fail
        refine bodyPost_ret (v := .agg #[.slice (some ⟨g, 0, none⟩) (q' + 1) cq, .int .i64 lvf, .int .i64 SO, .int .i64 EN]) (results_cell_row rfl _ _ w.heap.size 61 #[.slice (some ⟨g, 0, none⟩) (q' + 1) cq, .int .i64 lvf, .int .i64 SO, .int .i64 EN] (0, 0) _ rfl hbx Tryz.underlying61 rfl (by kernel_rfl)) rfl ?_
        exact HFINAL.out
end
end Go.Proofs.YtdgomaoikeffhaaGreat
/- seq's Sequences: what holds between its rounds. -/
namespace Go.Proofs.YtdgomaoikeffhaaGreat
open Go.RowKit

theorem seqSliceP : SliceOf Tryz.prog 58 61 4 48 := .mk_ (z := .agg #[.slice none 0 0, .int .i64 0, .int .i64 0, .int .i64 0]) Tryz.underlying58 (by kernel_rfl) rfl
/-- The runs used when i of them were gone through; the sequences so far. -/
def usedN (X : Pg) (bf : List Int) (i : Nat) : List Nat := (sqF X.R bf (matF bf) i).2
/-- What holds when i runs were gone through, all but the slice of what is answered. -/
structure MnAt (w wr : World) (X : Pg) (bf cl : List Int) (Bo i : Nat) (U : List Nat) (O : List SqO) : Prop where
  pg : PgAt wr X
  free : ∀ j r, X.R[j]? = some r → j ∉ U → wr.ownsRow w.heap.size 3 1 (.slice (some ⟨X.b j, 0, none⟩) r.length (X.cp j)) r.length ((encN r).map (Value.int .i64))
  rows : ∀ o ∈ O, ∃ g c, o.V = .slice (some ⟨g, 0, none⟩) o.e.at_.length c ∧ wr.ownsRow w.heap.size 3 1 o.V o.e.at_.length ((encN o.e.at_).map (Value.int .i64)) ∧ ∀ j, j < X.R.length → j ∉ U → g ≠ X.b j
  ans : O.map (fun o => o.e) = (sqF X.R bf (matF bf) i).1.map fun ks => sqAns X.lv cl bf (matF bf) X.level (placesF X.R ks)
  low : Below w.heap.size w wr
  mlt : X.m < Bo
  blt : ∀ j, j < X.R.length → X.b j < Bo
  base : Bo ≤ wr.heap.size
  wlo : w.heap.size ≤ X.m ∧ ∀ j, j < X.R.length → w.heap.size ≤ X.b j
section
variable {w wr w' : World} {X : Pg} {bf cl : List Int} {Bo i : Nat} {U : List Nat} {O : List SqO}
theorem own_offMap {base n g c : Nat} {e : TypeId} {size : Nat} {xs : List Value} {m : Nat} (h : wr.ownsRow base e size (.slice (some ⟨g, 0, none⟩) n c) n xs) (hm : ∃ o, wr.heap[m]? = some o ∧ ∀ cs t z, o ≠ .cells cs t z) : g ≠ m := by
  rintro rfl
  obtain ⟨o, h1, h2⟩ := hm
  obtain ⟨cs, h3⟩ := own_row h g rfl
  rw [h1] at h3
  exact h2 _ _ _ (Option.some.inj h3)
/-- A look-up in the map, and what is deleted there. -/
theorem MnAt.take (h : MnAt w wr X bf cl Bo i U O) (hp : PgAt w' X) (ho : ∃ o, wr.heap[X.m]? = some o ∧ ∀ cs t z, o ≠ .cells cs t z) (hk : Kept wr w' [X.m]) : MnAt w w' X bf cl Bo i U O := by
  refine ⟨hp, fun j r hr hj => ?_, fun o hoo => ?_, h.ans, hk.lower h.low h.low.size (fun x hx => by rw [List.mem_singleton] at hx; rw [hx]; exact h.wlo.1), h.mlt, h.blt, Nat.le_trans h.base hk.size, h.wlo⟩
  · have h1 := h.free j r hr hj
    exact own_keptG h1 hk (fun hm => own_offMap h1 ho (List.mem_singleton.1 hm))
  · obtain ⟨g, c, e, h1, h2⟩ := h.rows o hoo
    refine ⟨g, c, e, ?_, h2⟩
    rw [e] at h1 ⊢
    exact own_keptG h1 hk (fun hm => own_offMap h1 ho (List.mem_singleton.1 hm))
/-- New blocks, and what is drawn. -/
theorem MnAt.lower (h : MnAt w wr X bf cl Bo i U O) (hb : Below wr.heap.size wr w') : MnAt w w' X bf cl Bo i U O :=
  ⟨h.pg.low hb, fun j r hr hj => own_below (h.free j r hr hj) hb, fun o hoo => by
    obtain ⟨g, c, e, h1, h2⟩ := h.rows o hoo
    exact ⟨g, c, e, own_below h1 hb, h2⟩, h.ans, h.low.trans (hb.mono h.low.size), h.mlt, h.blt, Nat.le_trans h.base hb.size, h.wlo⟩
/-- What is answered grows. -/
theorem MnAt.grown {w0 : World} {vo : Value} {x : Nat} {xs : List Value} (h : MnAt w wr X bf cl Bo i U O) (hE : PgAt w0 X) (hap : PgApart X) (ho : PgOk X cl bf) (hw0 : w0.heap.size = Bo) {f : Nat} {r1 : List Nat} (hf : X.R[f]? = some r1) (hown : wr.ownsRow Bo 61 4 vo x xs) (hg : wr.grownBy w' vo.ownBlock) (hwB : w.heap.size ≤ Bo) : MnAt w w' X bf cl Bo i U O ∧ ∀ F : Nat → Option Nat, NumAt wr X.m (X.n + 1) F → NumAt w' X.m (X.n + 1) F := by
  have hlow : Below w.heap.size w w' := h.low.grown hg h.low.size (fun k hk => by
    have := (hown.lt k hk).1
    omega)
  have hblk : ∀ k, vo.ownBlock = some k → Bo ≤ k := fun k hk => (hown.lt k hk).1
  have hnum : ∀ F : Nat → Option Nat, NumAt wr X.m (X.n + 1) F → NumAt w' X.m (X.n + 1) F := fun F hF => hF.heap (hg.block _ hF.lt (fun e => by
    have := hblk _ e.symm
    have := h.mlt
    omega))
  refine ⟨⟨?_, fun j r hr hj => (h.free j r hr hj).kept hg (typ_ne (h.free j r hr hj) hown (by decide)), fun o hoo => ?_, h.ans, hlow, h.mlt, h.blt, Nat.le_trans h.base hg.size, h.wlo⟩, hnum⟩
  · rcases hb : vo.ownBlock with _ | gb
    · rw [hb] at hg
      exact h.pg.low ⟨hg.os, hg.tape, hg.output, hg.size, fun k hk => hg.block k hk (by simp)⟩
    · rw [hb] at hg
      have := hblk gb hb
      refine h.pg.app hE hap ho hf (.inr (by omega)) hg (fun e => ?_)
      have := h.blt f (List.getElem?_eq_some_iff.1 hf).1
      omega
  · obtain ⟨g, c, e, h1, h2⟩ := h.rows o hoo
    exact ⟨g, c, e, h1.kept hg (typ_ne h1 hown (by decide)), h2⟩
/-- A round that finds its run used. -/
theorem MnAt.skip (h : MnAt w wr X bf cl Bo i (usedN X bf i) O) (hi : i ∈ usedN X bf i) : MnAt w wr X bf cl Bo (i + 1) (usedN X bf (i + 1)) O := by
  unfold usedN at h hi ⊢
  have e : sqF X.R bf (matF bf) (i + 1) = sqF X.R bf (matF bf) i := by rw [sqF, if_pos hi]
  rw [e]
  exact ⟨h.pg, h.free, h.rows, by rw [h.ans, e], h.low, h.mlt, h.blt, h.base, h.wlo⟩
/-- A round that makes a sequence: what is kept of the rest. -/
theorem MnAt.more (h : MnAt w wr X bf cl Bo i (usedN X bf i) O) (ho : ∃ o, wr.heap[X.m]? = some o ∧ ∀ cs t z, o ≠ .cells cs t z) (hap : PgApart X) (hi : i < X.R.length) (hn : i ∉ usedN X bf i) {Fn : List Nat} (hFn : chF X.R bf (matF bf) (X.R.length + 1) (some i) (usedN X bf i) = Fn) {e : Ending} (hS : SeqAns wr w' X bf cl w.heap.size i Fn (usedN X bf i) e) : ∃ g q cq ev, e = .returned (.agg #[.slice (some ⟨g, 0, none⟩) q cq, .int .i64 ev.lev, .int .i64 ev.sos, .int .i64 ev.eos]) ∧ MnAt w w' X bf cl Bo (i + 1) (usedN X bf (i + 1)) (O ++ [⟨.slice (some ⟨g, 0, none⟩) q cq, ev⟩]) ∧ NumAt w' X.m (X.n + 1) (freeF X.R (usedN X bf (i + 1))) ∧ Kept wr w' [X.m, X.b i] := by
  obtain ⟨ks, g, q, cq, ev, hF, hk0, hP0, hPq, hev, hat, rfl, hown, hblk, hpg, hnum, hkept⟩ := hS
  have hs : sqF X.R bf (matF bf) (i + 1) = ((sqF X.R bf (matF bf) i).1 ++ [ks], Fn) := by
    unfold usedN at hFn hF hn
    rw [sqF, if_neg hn]
    rw [hFn]
    congr 1
    rw [hF, List.drop_left]
  have hU : usedN X bf (i + 1) = Fn := by unfold usedN; rw [hs]
  have hiF : i ∈ Fn := by
    rw [← hFn, ch_more hn]
    have hm : i ∈ usedN X bf i ++ [i] := by simp
    have hpre : ∀ (f : Nat) (k : Option Nat) (u : List Nat), i ∈ u → i ∈ chF X.R bf (matF bf) f k u := by
      intro f
      induction f with
      | zero => intro k u hu; rw [chF]; exact hu
      | succ f ih =>
        intro k u hu
        cases k with
        | none => rw [chF]; exact hu
        | some k =>
          rw [chF]
          split
          · exact hu
          · exact ih _ _ (by simp [hu])
    exact hpre _ _ _ hm
  have hsub : ∀ j, j ∉ Fn → j ∉ usedN X bf i := fun j hj hm => hj (by rw [hF]; simp [hm])
  have hwr : w.heap.size ≤ wr.heap.size := h.low.size
  refine ⟨g, q, cq, ev, rfl, ?_, by rw [hU]; exact hnum, hkept⟩
  rw [hU]
  refine ⟨hpg, fun j r hr hj => ?_, fun o hoo => ?_, by rw [List.map_append, h.ans, hs, List.map_append]; simp [hev], hkept.lower h.low hwr (fun x hx => by
    simp only [List.mem_cons, List.not_mem_nil, or_false] at hx
    rcases hx with rfl | rfl
    · exact h.wlo.1
    · exact h.wlo.2 i hi), h.mlt, h.blt, Nat.le_trans h.base hkept.size, h.wlo⟩
  · have hjl := (List.getElem?_eq_some_iff.1 hr).1
    have h1 := h.free j r hr (hsub j hj)
    refine own_keptG h1 hkept (fun hm => ?_)
    simp only [List.mem_cons, List.not_mem_nil, or_false] at hm
    rcases hm with e | e
    · exact own_offMap h1 ho e
    · have := hap.ne j i hjl hi e
      rw [this] at hj
      exact hj hiF
  · rcases List.mem_append.1 hoo with hoo | hoo
    · obtain ⟨g2, c2, e, h1, h2⟩ := h.rows o hoo
      refine ⟨g2, c2, e, ?_, fun j hj hjU => h2 j hj (hsub j hjU)⟩
      rw [e] at h1 ⊢
      refine own_keptG h1 hkept (fun hm => ?_)
      simp only [List.mem_cons, List.not_mem_nil, or_false] at hm
      rcases hm with e | e
      · exact own_offMap h1 ho e
      · exact h2 i hi hn e
    · rw [List.mem_singleton] at hoo
      subst hoo
      have hq : ev.at_.length = q := by rw [hat, hPq]
      refine ⟨g, cq, by simp only; rw [hq], by simp only; rw [hq, hat]; exact hown, fun j hj hjU => ?_⟩
      rcases hblk with e | e
      · rw [e]
        intro e2
        have := hap.ne i j hi hj e2
        exact hjU (by rw [← this]; exact hiF)
      · have := h.blt j hj
        have := h.base
        omega
end
end Go.Proofs.YtdgomaoikeffhaaGreat
/- seq's Sequences, walked. -/
namespace Go.Proofs.YtdgomaoikeffhaaGreat
open Go.RowKit

def blkOf : Value → Nat
  | .slice (some ad) _ _ => ad.block
  | _ => 0
def capOf : Value → Nat
  | .slice _ _ c => c
  | _ => 0
/-- The paragraph that Sequences makes. -/
def mkPg (pb : Nat) (A : Option Addr) (n c : Nat) (RA : Option Addr) (cR : Nat) (M : Option Addr) (cM : Nat) (level : Int) (lv bf : List Int) (R : List (List Nat)) (Q : List Value) : Pg :=
  ⟨pb, pb + 1, A, n, c, RA, cR, M, cM, level, lv, matF bf, R, fun k => blkOf (Q.getD k .nilFunc), fun k => capOf (Q.getD k .nilFunc)⟩
section
variable {w w1 w2 : World} {A RA M : Option Addr} {n c cR cM : Nat} {level : Int} {lv cl bf : List Int} {Q : List Value} {R : List (List Nat)}
theorem row_form (hL : LsAt w1 w.heap.size (.slice RA Q.length cR) Q (encR R)) {k : Nat} {r : List Nat} (hr : R[k]? = some r) (hne : r ≠ []) : ∃ g cap, Q[k]? = some (.slice (some ⟨g, 0, none⟩) r.length cap) ∧ w1.ownsRow w.heap.size 3 1 (.slice (some ⟨g, 0, none⟩) r.length cap) r.length ((encN r).map (Value.int .i64)) ∧ w.heap.size ≤ g ∧ g < w1.heap.size ∧ r.length ≤ cap := by
  have hre : (encR R)[k]? = some (encN r) := by unfold encR; rw [List.getElem?_map, hr]; rfl
  obtain ⟨u, hu⟩ : ∃ u, Q[k]? = some u := ⟨_, List.getElem?_eq_getElem (by rw [hL.len]; exact (List.getElem?_eq_some_iff.1 hre).1)⟩
  have ho := hL.rows k u _ hu hre
  have hl : (encN r).length = r.length := by simp [encN]
  rw [hl] at ho
  obtain ⟨g, cap, hv, hc, hlt, hb, _⟩ := own_at ho (List.length_pos_iff.2 hne)
  subst hv
  exact ⟨g, cap, hu, ho, hb, hlt, hc⟩
/-- What lies in memory when the paragraph and its map are made. -/
structure MkAt (w w1 W : World) (X : Pg) (cl bf : List Int) : Prop where
  pg : PgAt W X
  num : NumAt W X.m (X.n + 1) (fun _ => none)
  ok : PgOk X cl bf
  apart : PgApart X
  free : ∀ j r, X.R[j]? = some r → W.ownsRow w.heap.size 3 1 (.slice (some ⟨X.b j, 0, none⟩) r.length (X.cp j)) r.length ((encN r).map (Value.int .i64))
  blt : ∀ j, j < X.R.length → w.heap.size ≤ X.b j ∧ X.b j < W.heap.size
  mlt : w.heap.size ≤ X.m ∧ X.m < W.heap.size
  low : Below w.heap.size w W
theorem mk_at (hb1 : Below w.heap.size w w1) (hb2 : Below w1.heap.size w1 w2) (hr : Rd w 1 A n (lv.map (Value.int .i64))) (hL : LsAt w1 w.heap.size (.slice RA Q.length cR) Q (encR R)) (hM : w2.ownsRow w1.heap.size 3 1 (.slice M n cM) n ((matF bf).map (Value.int .i64))) (hR : Runs R lv cl n) (hlv : lv.length = n) (hbf : bf.length = n) (hn : n ≤ 100000) :
    MkAt w w1 ((w2.alloc (.cells #[.int .i64 level, .slice A n c, .slice RA Q.length cR, .map (some (w2.heap.size + 1)), .slice M n cM] 91)).alloc (.map #[] 0)) (mkPg w2.heap.size A n c RA cR M cM level lv bf R Q) cl bf := by
  have hQR : Q.length = R.length := by have := hL.len; unfold encR at this; rwa [List.length_map] at this
  have hlow2 : Below w2.heap.size w2 ((w2.alloc (.cells #[.int .i64 level, .slice A n c, .slice RA Q.length cR, .map (some (w2.heap.size + 1)), .slice M n cM] 91)).alloc (.map #[] 0)) := ((Below.refl _ _).alloc (Nat.le_refl _) _).alloc (by simp) _
  obtain ⟨W, hW⟩ : ∃ W, ((w2.alloc (.cells #[.int .i64 level, .slice A n c, .slice RA Q.length cR, .map (some (w2.heap.size + 1)), .slice M n cM] 91)).alloc (.map #[] 0)) = W := ⟨_, rfl⟩
  have hbox : W.heap[w2.heap.size]? = some (.cells #[.int .i64 level, .slice A n c, .slice RA Q.length cR, .map (some (w2.heap.size + 1)), .slice M n cM] 91 (0, 0)) := by
    rw [← hW, heap_alloc_old (h := by simp)]
    exact heap_alloc_new _ _
  have hmap : W.heap[w2.heap.size + 1]? = some (.map #[] 0) := by
    have := heap_alloc_new (w2.alloc (.cells #[.int .i64 level, .slice A n c, .slice RA Q.length cR, .map (some (w2.heap.size + 1)), .slice M n cM] 91)) (.map #[] 0)
    rwa [World.size_alloc, hW] at this
  have hsz : W.heap.size = w2.heap.size + 2 := by rw [← hW]; simp
  rw [hW] at hlow2 ⊢
  clear hW
  have h01 : w.heap.size ≤ w1.heap.size := hb1.size
  have h12 : w1.heap.size ≤ w2.heap.size := hb2.size
  have hlow : Below w.heap.size w W := (hb1.trans (hb2.mono h01)).trans (hlow2.mono (by omega))
  have h1W : Below w1.heap.size w1 W := hb2.trans (hlow2.mono h12)
  obtain ⟨X, hX⟩ : ∃ X, X = mkPg w2.heap.size A n c RA cR M cM level lv bf R Q := ⟨_, rfl⟩
  have hXR : X.R = R := by rw [hX]; rfl
  have hXb : ∀ k, X.b k = blkOf (Q.getD k .nilFunc) := by rw [hX]; intro k; rfl
  have hXc : ∀ k, X.cp k = capOf (Q.getD k .nilFunc) := by rw [hX]; intro k; rfl
  have hrow : ∀ k r, R[k]? = some r → Q[k]? = some (.slice (some ⟨X.b k, 0, none⟩) r.length (X.cp k)) ∧ w1.ownsRow w.heap.size 3 1 (.slice (some ⟨X.b k, 0, none⟩) r.length (X.cp k)) r.length ((encN r).map (Value.int .i64)) ∧ w.heap.size ≤ X.b k ∧ X.b k < w1.heap.size ∧ r.length ≤ X.cp k := fun k r hk => by
    obtain ⟨g, cap, h1, h2, h3, h4, h5⟩ := row_form hL hk (hR.one r (List.mem_of_getElem? hk)).1
    have eb : X.b k = g := by rw [hXb, List.getD_eq_getElem?_getD, h1]; rfl
    have ec : X.cp k = cap := by rw [hXc, List.getD_eq_getElem?_getD, h1]; rfl
    rw [eb, ec]
    exact ⟨h1, h2, h3, h4, h5⟩
  have hget : ∀ k, k < R.length → ∃ r, R[k]? = some r := fun k hk => ⟨_, List.getElem?_eq_getElem hk⟩
  rw [← hX]
  have hblt : ∀ j, j < R.length → w.heap.size ≤ X.b j ∧ X.b j < w1.heap.size := fun j hj => by
    obtain ⟨r, hr⟩ := hget j hj
    exact ⟨(hrow j r hr).2.2.1, (hrow j r hr).2.2.2.1⟩
  refine ⟨⟨?_, ?_, ?_, ?_, ?_⟩, ?_, ⟨?_, ?_, ?_, ?_, ?_, ?_⟩, ⟨?_, ?_, ?_, ?_, ?_, ?_⟩, ?_, ?_, ?_, hlow⟩
  · rw [hX]; show W.heap[w2.heap.size]? = _; rw [hbox, hQR]; rfl
  · rw [hX]; exact hr.below hlow
  · rw [hX]; exact (Rd.of_own hM).below hlow2
  · have h9 := (Rd.of_own hL.own).below h1W
    have e : (List.range X.R.length).map X.rowV = Q := by
      refine List.ext_getElem? fun k => ?_
      rw [List.getElem?_map]
      by_cases hk : k < R.length
      · obtain ⟨r, hr⟩ := hget k hk
        rw [List.getElem?_range (by rw [hXR]; exact hk), Option.map_some, (hrow k r hr).1]
        unfold Pg.rowV
        rw [hXR, getD_of hr]
      · rw [List.getElem?_eq_none (by rw [hXR]; simp; omega), List.getElem?_eq_none (by omega)]
        rfl
    rw [e, hXR]
    have : X.RA = RA := by rw [hX]; rfl
    rw [this, ← hQR]
    exact h9
  · intro k r hk
    rw [hXR] at hk
    exact (Rd.of_own (hrow k r hk).2.1).below h1W
  · rw [hX]; exact NumAt.none_ hmap _
  · rw [hX]; exact hR
  · rw [hX]; exact hlv
  · rw [hX]; rfl
  · rw [hX]; exact hbf
  · rw [hX]; exact hn
  · intro k r hk
    rw [hXR] at hk
    exact (hrow k r hk).2.2.2.2
  · intro k hk
    rw [hXR] at hk
    have := (hblt k hk).2
    have e : X.pb = w2.heap.size := by rw [hX]; rfl
    omega
  · intro k hk
    rw [hXR] at hk
    have := (hblt k hk).2
    have e : X.m = w2.heap.size + 1 := by rw [hX]; rfl
    omega
  · intro k ad hk e
    rw [hXR] at hk
    have h5 := (hblt k hk).1
    have e2 : X.A = A := by rw [hX]; rfl
    rw [e2] at e
    obtain ⟨r, hr2⟩ := hget k hk
    have hne := (hR.one r (List.mem_of_getElem? hr2)).1
    have hn0 : 0 < n := by
      cases r with
      | nil => exact absurd rfl hne
      | cons x r => have := hR.lt (List.mem_of_getElem? hr2) (x := x) (by simp); omega
    have := hr.blkLt hn0 e
    omega
  · intro k ad hk e
    rw [hXR] at hk
    have h5 := (hblt k hk).2
    have e2 : X.M = M := by rw [hX]; rfl
    rw [e2] at e
    obtain ⟨r, hr2⟩ := hget k hk
    have hne := (hR.one r (List.mem_of_getElem? hr2)).1
    have hn0 : 0 < n := by
      cases r with
      | nil => exact absurd rfl hne
      | cons x r => have := hR.lt (List.mem_of_getElem? hr2) (x := x) (by simp); omega
    obtain ⟨g, _, hv, _, _, hbg, _⟩ := own_at hM hn0
    injection hv with e1 _ _
    rw [e] at e1
    obtain rfl := Option.some.inj e1
    show g ≠ _
    omega
  · intro k ad hk e
    rw [hXR] at hk
    have e2 : X.RA = RA := by rw [hX]; rfl
    rw [e2] at e
    obtain ⟨r, hr2⟩ := hget k hk
    obtain ⟨g, _, hv, _, _, _, _⟩ := own_at hL.own (by omega)
    injection hv with e1 _ _
    rw [e] at e1
    obtain rfl := Option.some.inj e1
    intro e9
    obtain ⟨c1, g1⟩ := own_row hL.own g (by rw [e]; rfl)
    obtain ⟨c2, g2⟩ := own_row (hrow k r hr2).2.1 (X.b k) rfl
    rw [← e9, g1] at g2
    have := (Obj.cells.inj (Option.some.inj g2)).2.1
    exact absurd this (by decide)
  · intro i j hi hj e
    rw [hXR] at hi hj
    obtain ⟨ri, hri⟩ := hget i hi
    obtain ⟨rj, hrj⟩ := hget j hj
    by_cases hij : i = j
    · exact hij
    · rcases hL.ne i j _ _ hij (hrow i ri hri).1 (hrow j rj hrj).1 with h | h
      · simp [Value.ownBlock] at h
      · exact absurd (by simp [Value.ownBlock, e]) h
  · intro j r hj
    rw [hXR] at hj
    exact own_below (hrow j r hj).2.1 h1W
  · intro j hj
    rw [hXR] at hj
    have := hblt j hj
    omega
  · have e : X.m = w2.heap.size + 1 := by rw [hX]; rfl
    omega
end
/-- They lie in blocks from B on. -/
structure RoLow (B : Nat) (A : Option Addr) (n : Nat) (O : List SqO) : Prop where
  top : 0 < n → ∀ ad, A = some ad → B ≤ ad.block
  rows : ∀ o ∈ O, ∀ ad n c, o.V = .slice (some ad) n c → B ≤ ad.block
/-- What Sequences answers: sequences that read so. -/
def SeqsAns (w w' : World) (L : List SqE) (e : Ending) : Prop := ∃ a m k O, e = .returned (.slice a m k) ∧ RO w' a m O ∧ O.map (fun o => o.e) = L ∧ RoLow w.heap.size a m O
set_option maxRecDepth 100000 in
set_option maxHeartbeats 8000000 in
theorem sqSeqs_same (A B C : Option Addr) (n c d q : Nat) (lv cl bf : List Int) (level : Int) (w : World) (hr : Rd w 1 A n (lv.map (Value.int .i64))) (hs : Rd w 1 B n (cl.map (Value.int .i64))) (ht : Rd w 1 C n (bf.map (Value.int .i64))) (hn : n ≤ 100000) :
    Calls Tryz.prog 25 #[.slice A n c, .slice B n d, .slice C n q, .int .i64 level] w fun e w' => SeqsAns w w' (seqsF lv cl bf level (runsG lv cl).length) e ∧ Below w.heap.size w w' := by
  have hll : lv.length = n := by simpa using hr.len1
  have hlc : cl.length = n := by simpa using hs.len1
  have hlb : bf.length = n := by simpa using ht.len1
  have HRU := Lib.hid (sqRuns_any A B n c n d lv cl w hr hs hn (by unfold maxLen; omega))
  have HR := Lib.hid hr
  have HT := Lib.hid ht
  have hRG : Runs (runsG lv cl) lv cl n := by unfold runsG; rw [if_pos (by omega)]; have := runs_of lv cl; rwa [hll] at this
  obtain ⟨R, hR⟩ : ∃ R, runsG lv cl = R := ⟨_, rfl⟩
  rw [hR] at HRU hRG ⊢
  have HRR := Lib.hid hR
  have HRG := Lib.hid hRG
  have hls := len_ls
  have hmk : ∀ (W : World) (x : Int), (Instr.makeMap 89 (some (.int .i64 x))).run Tryz.prog W = .ok (.map (some W.heap.size)) (W.alloc (.map #[] 0)) := fun _ _ => rfl
  clear hr hs ht hR hRG
  go_enter Tryz.func25, Tryz.ntmps25
  go_wp2_with fail
  refine HRU.out.mono ?_
  rintro e w1 ⟨⟨v, Q, rfl, hL⟩, hb1⟩
  obtain ⟨RA, cR, rfl, hcR⟩ := own_form hL.own
  have HL := Lib.hid hL
  have HB1 := Lib.hid hb1
  clear hL hb1
  go_wp2_with fail
  refine (prMatches_any C n q bf w1 (HT.out.below HB1.out) hn).mono ?_
  rintro e w2 ⟨vm, rfl, hown, hb2⟩
  obtain ⟨M, cM, rfl, hcM⟩ := own_form hown
  have HB2 := Lib.hid (below_self HB1.out hb2)
  have HM2 := Lib.hid hown
  have HL2 := Lib.hid (HL.out.low hb2)
  clear hown
  go_upto_region 4 with fail
  go_upto_region 5 with fail
  have HMK := Lib.hid (mk_at (level := level) (c := c) HB1.out hb2 HR.out HL.out HM2.out HRG.out hll hlb hn)
  clear hb2
  obtain ⟨X, hX⟩ : ∃ X, mkPg w2.heap.size A n c RA cR M cM level lv bf R Q = X := ⟨_, rfl⟩
  have HXlv : Hid (X.lv = lv) := Lib.hid (by rw [← hX]; rfl)
  have HXR : Hid (X.R = R) := Lib.hid (by rw [← hX]; rfl)
  have HXlevel : Hid (X.level = level) := Lib.hid (by rw [← hX]; rfl)
  have hXpb : w2.heap.size = X.pb := by rw [← hX]; rfl
  have hXm : w2.heap.size + 1 = X.m := by rw [← hX]; rfl
  have hXn : n = X.n := by rw [← hX]; rfl
  rw [hX] at HMK
  obtain ⟨W, hW⟩ : ∃ W, ((w2.alloc (.cells #[.int .i64 level, .slice A n c, .slice RA Q.length cR, .map (some (w2.heap.size + 1)), .slice M n cM] 91)).alloc (.map #[] 0)) = W := ⟨_, rfl⟩
  rw [hW] at HMK ⊢
  rw [hXm, hXpb]
  clear hW hX hXpb hXm
  have HMKL := Lib.hid HMK.out.pg
  have c2 := hp_cell (j := 2) HMK.out.pg.box rfl
  have hRl : X.R.length ≤ X.n := by
    have h1 : ∀ L : List (List Nat), (∀ x ∈ L, x ≠ []) → L.length ≤ L.flatten.length := fun L => by
      induction L with
      | nil => simp
      | cons a L ih =>
        intro h
        have h5 := ih (fun x hx => h x (by simp [hx]))
        have h6 : a.length ≠ 0 := fun e => h a (by simp) (List.eq_nil_of_length_eq_zero e)
        simp only [List.flatten_cons, List.length_append, List.length_cons]
        omega
    have h2 := h1 X.R (fun r hr => (HMK.out.ok.runs.one r hr).1)
    rw [HMK.out.ok.runs.flat] at h2
    exact Nat.le_trans h2 (Nat.le_trans (List.length_filter_le _ _) (by simp))
  have hn5 := HMK.out.ok.n5
  obtain ⟨N, hN⟩ : ∃ N, X.R.length = N := ⟨_, rfl⟩
  rw [hN] at c2 hRl
  have HNN := Lib.hid hN
  have hN5 : N ≤ 100000 := by omega
  clear hN
  go_wp2_with fail
  clear c2
  go_loopw [45] (fun i wr => ∃ k : Nat, k ≤ N ∧ i = .int .i64 (k : Int) ∧ PgAt wr X ∧ NumAt wr X.m (X.n + 1) (fillF X.R k) ∧ Kept W wr [X.m]) (fun i _ => N - (intOf i).toNat)
  case atStart => exact ⟨0, Nat.zero_le _, rfl, HMK.out.pg, by rw [fill_none]; exact HMK.out.num, Kept.refl _ _⟩
  case round =>
    obtain ⟨k, hk, rfl, hP, hM, hK⟩ := hrel
    by_cases hlt : k < N
    · obtain ⟨r, hr⟩ : ∃ r, X.R[k]? = some r := ⟨_, List.getElem?_eq_getElem (by rw [HNN.out]; exact hlt)⟩
      have hne := (HMK.out.ok.runs.one r (List.mem_of_getElem? hr)).1
      obtain ⟨a, ha⟩ : ∃ a, r.head? = some a := by
        cases r with
        | nil => exact absurd rfl hne
        | cons a r' => exact ⟨a, rfl⟩
      have han : a < X.n := HMK.out.ok.runs.lt (List.mem_of_getElem? hr) (List.mem_of_head? ha)
      obtain ⟨ra, hra, cr⟩ := hP.runAt hr
      have ca := hP.headAt hr ha
      have c3 := hp_cell (j := 3) hP.box rfl
      obtain ⟨W6, hrun, hM6, hturn⟩ := (show NumAt wr.drew X.m (X.n + 1) (fillF X.R k) from hM).store (k := a) (by omega) (by omega) k
      rw [HMK.out.ok.runs.fill hr ha] at hM6
      unfold valN at hrun
      have hk6 : Kept wr W6 [X.m] := (Kept.refl wr _).drew.trans (kept_turnedN hturn)
      have HP6 := Lib.hid (hP.offMap hM hk6)
      have HM6 := Lib.hid hM6
      have HK6 := Lib.hid (hK.trans hk6)
      obtain ⟨p, hp⟩ : ∃ p, r.length = p := ⟨_, rfl⟩
      have hp0 : (0 : Int) < (p : Int) := by have := List.length_pos_iff.2 hne; omega
      rw [hp] at cr
      have hkN : (k : Int) < (N : Int) := by omega
      have hk0 : (0 : Int) ≤ (k : Int) := by omega
      rw [hra]
      clear hP hM hK hr hne ha han hM6 hturn hk6 hp hk
      go_wp2_with fail
      go_region
      all_goals (
        go_wp2_with fail
        go_roundw
        case rel => exact ⟨k + 1, by omega, by go_num, HP6.out, HM6.out, HK6.out⟩
        case measure => simp [intOf]; omega)
    · obtain rfl : k = N := by omega
      rw [← HNN.out, fill_all] at hM
      have hM0 : MnAt w wr X bf cl wr.heap.size 0 (usedN X bf 0) [] := ⟨hP, fun j r hr _ => by
          have h1 := HMK.out.free j r hr
          exact own_keptG h1 hK (fun hm => own_offMap h1 HMK.out.num.obj (List.mem_singleton.1 hm)), by simp, rfl, hK.lower HMK.out.low HMK.out.low.size (fun x hx => by rw [List.mem_singleton] at hx; rw [hx]; exact HMK.out.mlt.1), Nat.lt_of_lt_of_le HMK.out.mlt.2 hK.size, fun j hj => Nat.lt_of_lt_of_le (HMK.out.blt j hj).2 hK.size, Nat.le_refl _, HMK.out.mlt.1, fun j hj => (HMK.out.blt j hj).1⟩
      have HM0 := Lib.hid hM0
      have HF0 : Hid (NumAt wr X.m (X.n + 1) (freeF X.R (usedN X bf 0))) := Lib.hid hM
      have c2 := hp_cell (j := 2) hP.box rfl
      rw [HNN.out] at c2
      clear hP hM hK hM0 hlt hk
      go_upto_region 11 with (refine wpList_mk rfl _ _ _ rfl seqSliceP (base := wr.heap.size) (k : Int) k rfl rfl rfl (by omega) (by unfold maxLen; omega) (Nat.le_refl _) ?_; intro v3 w3 hown3 hg3)
      obtain ⟨wz, hwz⟩ : ∃ wz, wz = wr := ⟨_, rfl⟩
      subst hwz
      have hb3 := below_make hg3
      have HPE := Lib.hid HM0.out.pg
      have HM3 := Lib.hid (HM0.out.lower hb3)
      have HF3 := Lib.hid (HF0.out.low hb3)
      have HO3 := Lib.hid hown3
      have c2' := hp_cell (j := 2) HM3.out.pg.box rfl
      rw [HNN.out] at c2'
      have HWB : Hid (w.heap.size ≤ wz.heap.size) := Lib.hid HM0.out.low.size
      clear hown3 hg3 hb3 c2
      go_wp2_with fail
      clear c2'
      go_loopw [12, 70] (fun vo s70 ws => ∃ i O, i ≤ k ∧ s70 = .int .i64 ((i : Nat) : Int) ∧ MnAt w ws X bf cl wz.heap.size i (usedN X bf i) O ∧ NumAt ws X.m (X.n + 1) (freeF X.R (usedN X bf i)) ∧ ws.ownsRow wz.heap.size 61 4 vo O.length (O.flatMap cQ)) (fun _ s70 _ => k - (intOf s70).toNat)
      case atStart => exact ⟨0, [], Nat.zero_le _, rfl, HM3.out, HF3.out, HO3.out⟩
      case round =>
        obtain ⟨i, O, hi, rfl, hM, hF, hO⟩ := hrel
        obtain ⟨VO, cO, rfl, hcO⟩ := own_form hO
        have HM := Lib.hid hM
        have HF := Lib.hid hF
        have HO := Lib.hid hO
        by_cases hlt : i < k
        · have hiR : i < X.R.length := by rw [HNN.out]; exact hlt
          obtain ⟨r, hr⟩ : ∃ r, X.R[i]? = some r := ⟨_, List.getElem?_eq_getElem hiR⟩
          have hne := (HMK.out.ok.runs.one r (List.mem_of_getElem? hr)).1
          obtain ⟨a, ha⟩ : ∃ a, r.head? = some a := by
            cases r with
            | nil => exact absurd rfl hne
            | cons a r' => exact ⟨a, rfl⟩
          have han : a < X.n := HMK.out.ok.runs.lt (List.mem_of_getElem? hr) (List.mem_of_head? ha)
          obtain ⟨ra, hra, cr⟩ := hM.pg.runAt hr
          have ca := hM.pg.headAt hr ha
          have hbeg := HMK.out.ok.runs.beg hr ha
          have hT := sqTake_any a (X.n + 1) (freeF X.R (usedN X bf i)) _ hM.pg hF (by omega) (by omega)
          obtain ⟨p, hp⟩ : ∃ p, r.length = p := ⟨_, rfl⟩
          have hp0 : (0 : Int) < (p : Int) := by have := List.length_pos_iff.2 hne; omega
          rw [hp] at cr
          have hkN : (i : Int) < (k : Int) := by omega
          have hk0 : (0 : Int) ≤ (i : Int) := by omega
          have hol : O.length ≤ 100000 := by
            have h1 := congrArg List.length hM.ans
            simp only [List.length_map] at h1
            have h2 := sq_len (R := X.R) (bf := bf) (mt := matF bf) i
            omega
          rw [hra]
          by_cases hu : i ∈ usedN X bf i
          · rw [freeF_used hbeg hu, freeF_same (freeF_used hbeg hu)] at hT
            have HT := Lib.hid hT
            have HSK := Lib.hid (fun ws' (h : MnAt w ws' X bf cl wz.heap.size i (usedN X bf i) O) => h.skip hu)
            have HUS : Hid (usedN X bf (i + 1) = usedN X bf i) := Lib.hid (by
              unfold usedN at hu ⊢
              have e : sqF X.R bf (matF bf) (i + 1) = sqF X.R bf (matF bf) i := by rw [sqF, if_pos hu]
              rw [e])
            clear hT hM hF hO hr hne ha han hbeg hu hp hcO
            go_wp2_with fail
            refine HT.out.mono ?_
            rintro e w4 ⟨rfl, h1, h2, h3⟩
            have HM4 := Lib.hid (HSK.out _ (HM.out.take h1 HF.out.obj h3))
            have HO4 := Lib.hid (own_kept HO.out h3 (fun x hx => by rw [List.mem_singleton] at hx; rw [hx]; exact HM.out.mlt))
            have HF4 := Lib.hid h2
            clear h1 h2 h3
            go_wp2_with fail
            go_roundw
            case rel => exact ⟨i + 1, O, by omega, by go_num, HM4.out, by rw [HUS.out]; exact HF4.out, HO4.out⟩
            case measure => simp [intOf]; omega
          · rw [freeF_of hbeg hu, HMK.out.ok.runs.taken hbeg] at hT
            have HT := Lib.hid hT
            have HIU := Lib.hid hu
            have HR1 := Lib.hid hr
            have hsq := sq_ok (R := X.R) (bf := bf) (mt := matF bf) i (by omega)
            obtain ⟨Fn, hFn⟩ : ∃ Fn, chF X.R bf (matF bf) (X.R.length + 1) (some i) (usedN X bf i) = Fn := ⟨_, rfl⟩
            have HSEQ := Lib.hid (fun ws' (h1 : MnAt w ws' X bf cl wz.heap.size i (usedN X bf i) O) (h2 : NumAt ws' X.m (X.n + 1) (freeF X.R (usedN X bf i ++ [i]))) => sqSequence_any w.heap.size i (usedN X bf i) Fn ws' h1.pg HMK.out.ok HMK.out.apart h2 hiR (fun r hr => h1.free i r hr hu) h1.low.size hFn hu hsq.2.1 hsq.1)
            have HMO := Lib.hid (fun ws' ws2 e (h1 : MnAt w ws' X bf cl wz.heap.size i (usedN X bf i) O) (ho : ∃ o, ws'.heap[X.m]? = some o ∧ ∀ cs t z, o ≠ .cells cs t z) (hS : SeqAns ws' ws2 X bf cl w.heap.size i Fn (usedN X bf i) e) => h1.more ho HMK.out.apart hiR hu hFn hS)
            have HIR := Lib.hid hiR
            clear hT hM hF hO hr hne ha han hbeg hu hp hcO hiR hsq hFn
            go_wp2_with fail
            refine HT.out.mono ?_
            rintro e w4 ⟨rfl, h1, h2, h3⟩
            have HM4 := Lib.hid (HM.out.take h1 HF.out.obj h3)
            have HO4 := Lib.hid (own_kept HO.out h3 (fun x hx => by rw [List.mem_singleton] at hx; rw [hx]; exact HM.out.mlt))
            have HF4 := Lib.hid h2
            clear h1 h2 h3 cr ca
            go_wp2_with fail
            refine (HSEQ.out _ HM4.out HF4.out).mono ?_
            intro e w5 hS
            obtain ⟨g, q2, cq, ev, rfl, hM5, hN5, hk5⟩ := HMO.out _ _ _ HM4.out HF4.out.obj hS
            have hO5 := own_kept HO4.out hk5 (fun x hx => by
              simp only [List.mem_cons, List.not_mem_nil, or_false] at hx
              rcases hx with rfl | rfl
              · exact HM4.out.mlt
              · exact HM4.out.blt i HIR.out)
            have HM5 := Lib.hid hM5
            have HN5 := Lib.hid hN5
            have HO5 := Lib.hid hO5
            clear hS hM5 hN5 hk5 hO5
            obtain ⟨oz, hoz⟩ : ∃ z, O.length = z := ⟨_, rfl⟩
            rw [hoz] at HO5 hol ⊢
            have HOZ := Lib.hid hoz
            clear hoz
            have HBW : Hid (wz.heap.size ≤ w5.heap.size) := Lib.hid HM5.out.base
            go_wp2_with (first
              | (at_builtin; go_loud (refine wpList_app rfl _ _ _ rfl seqSliceP (by decide) (.slice VO oz cO) oz _ rfl (HO5.out.alloc _) ⟨w5.heap.size, 0, none⟩ 1 1 [.slice (some ⟨g, 0, none⟩) q2 cq, .int .i64 ev.lev, .int .i64 ev.sos, .int .i64 ev.eos] rfl rfl (cells_new w5 [_, _, _, _] _) (oneSq _ _ _ _ _ _) (by omega) (by unfold maxLen; omega) (by have := HBW.out; simp; omega) ?_; intro v6 w6 hown6 hg6 hat6))
              | fail)
            have hba := below_new w5 (.cells #[.slice (some ⟨g, 0, none⟩) q2 cq, .int .i64 ev.lev, .int .i64 ev.sos, .int .i64 ev.eos] 61)
            obtain ⟨hM6, hN6⟩ := (HM5.out.lower hba).grown HPE.out HMK.out.apart HMK.out.ok rfl HR1.out (HO5.out.alloc _) hg6 HWB.out
            have HM6 := Lib.hid hM6
            have HN6 := Lib.hid (hN6 _ (HN5.out.low hba))
            have HO6 : Hid (w6.ownsRow wz.heap.size 61 4 v6 (O ++ [(⟨.slice (some ⟨g, 0, none⟩) q2 cq, ev⟩ : SqO)]).length ((O ++ [(⟨.slice (some ⟨g, 0, none⟩) q2 cq, ev⟩ : SqO)]).flatMap cQ)) := Lib.hid (by
              rw [List.length_append, HOZ.out, List.flatMap_append]
              simpa [cQ] using hown6)
            clear hba hM6 hN6 hown6 hg6 hat6
            go_roundw
            case rel => exact ⟨i + 1, _, by omega, by go_num, HM6.out, HN6.out, HO6.out⟩
            case measure => simp [intOf]; omega
        · have hik : i = X.R.length := by rw [HNN.out]; omega
          have hans := hM.ans
          have HAN : Hid (O.map (fun o => o.e) = seqsF lv cl bf level R.length) := Lib.hid (by
            rw [hans, hik, HXR.out, HXlv.out, HXlevel.out]
            unfold seqsF
            rw [HRR.out])
          have HRO : Hid (RO _ VO O.length O) := Lib.hid ⟨Rd.of_own hO, fun o hoo => by
            obtain ⟨g, c, e, h1, _⟩ := hM.rows o hoo
            refine ⟨_, c, e, ?_⟩
            rw [e] at h1
            exact Rd.of_own h1⟩
          have HLO := Lib.hid hM.low
          have HRL : Hid (RoLow w.heap.size VO O.length O) := Lib.hid ⟨fun h0 ad e => by
            obtain ⟨g, _, hv, _, _⟩ := hO.form h0
            injection hv with e1 _ _
            rw [e] at e1
            obtain rfl := Option.some.inj e1
            have h3 : wz.heap.size ≤ g := (hO.lt g (by rw [e]; rfl)).1
            exact Nat.le_trans HWB.out h3, fun o hoo ad n2 c2 e => by
            obtain ⟨g, c, e9, h1, _⟩ := hM.rows o hoo
            rw [e9] at e
            injection e with e1 _ _
            obtain rfl := Option.some.inj e1
            rw [e9] at h1
            exact (h1.lt g rfl).1⟩
          have hlt' : ¬ (i : Int) < (k : Int) := by omega
          clear hM hF hO hlt hik hans hcO
          go_wp2_with fail
          go_ret
          exact ⟨⟨_, _, _, O, rfl, HRO.out, HAN.out, HRL.out⟩, HLO.out⟩
end Go.Proofs.YtdgomaoikeffhaaGreat
/- seq's Sequences at any counts. -/
namespace Go.Proofs.YtdgomaoikeffhaaGreat
open Go.RowKit
set_option maxRecDepth 100000 in
set_option maxHeartbeats 8000000 in
theorem sqSeqs_few (A B C : Option Addr) (n m c d q : Nat) (lv cl bf : List Int) (level : Int) (w : World) (hr : Rd w 1 A n (lv.map (Value.int .i64))) (hs : Rd w 1 B m (cl.map (Value.int .i64))) (ht : Rd w 1 C m (bf.map (Value.int .i64))) (hn : n ≤ 100000) (hm : m ≤ 100000) (hnm : n ≠ m) :
    Calls Tryz.prog 25 #[.slice A n c, .slice B m d, .slice C m q, .int .i64 level] w fun e w' => SeqsAns w w' [] e ∧ Below w.heap.size w w' := by
  have hll : lv.length = n := by simpa using hr.len1
  have hlc : cl.length = m := by simpa using hs.len1
  have HRU := Lib.hid (sqRuns_any A B n c m d lv cl w hr hs hn (by unfold maxLen; omega))
  rw [show runsG lv cl = [] by unfold runsG; rw [if_neg (by omega)]] at HRU
  have HT := Lib.hid ht
  have hls := len_ls
  have hmk : ∀ (W : World) (x : Int), (Instr.makeMap 89 (some (.int .i64 x))).run Tryz.prog W = .ok (.map (some W.heap.size)) (W.alloc (.map #[] 0)) := fun _ _ => rfl
  clear hr hs ht hll hlc hnm
  go_enter Tryz.func25, Tryz.ntmps25
  go_wp2_with fail
  refine HRU.out.mono ?_
  rintro e w1 ⟨⟨v, Q, rfl, hL⟩, hb1⟩
  obtain rfl : Q = [] := List.eq_nil_of_length_eq_zero (by rw [hL.len]; rfl)
  obtain ⟨RA, cR, rfl, hcR⟩ := own_form hL.own
  have HB1 := Lib.hid hb1
  clear hL hb1
  go_wp2_with fail
  refine (prMatches_any C m q bf w1 (HT.out.below HB1.out) hm).mono ?_
  rintro e w2 ⟨vm, rfl, hown, hb2⟩
  obtain ⟨M, cM, rfl, hcM⟩ := own_form hown
  have HB2 := Lib.hid (below_self HB1.out hb2)
  clear hown hb2
  go_upto_region 4 with fail
  go_upto_region 5 with fail
  have hlow2 : Below w2.heap.size w2 ((w2.alloc (.cells #[.int .i64 level, .slice A n c, .slice RA 0 cR, .map (some (w2.heap.size + 1)), .slice M m cM] 91)).alloc (.map #[] 0)) := ((Below.refl _ _).alloc (Nat.le_refl _) _).alloc (by simp) _
  have hbox : ((w2.alloc (.cells #[.int .i64 level, .slice A n c, .slice RA 0 cR, .map (some (w2.heap.size + 1)), .slice M m cM] 91)).alloc (.map #[] 0)).heap[w2.heap.size]? = some (.cells #[.int .i64 level, .slice A n c, .slice RA 0 cR, .map (some (w2.heap.size + 1)), .slice M m cM] 91 (0, 0)) := by
    rw [heap_alloc_old (h := by simp)]
    exact heap_alloc_new _ _
  simp only [List.length_nil] at *
  obtain ⟨W, hW⟩ : ∃ W, ((w2.alloc (.cells #[.int .i64 level, .slice A n c, .slice RA 0 cR, .map (some (w2.heap.size + 1)), .slice M m cM] 91)).alloc (.map #[] 0)) = W := ⟨_, rfl⟩
  rw [hW] at hlow2 hbox ⊢
  have HLW := Lib.hid (below_self HB2.out hlow2)
  have HBX := Lib.hid hbox
  have c2 := hp_cell (j := 2) hbox rfl
  clear hW hlow2 hbox
  go_wp2_with fail
  go_loopw [45] (fun i wr => i = .int .i64 0 ∧ wr = W) (fun _ _ => 0)
  case atStart => exact ⟨rfl, rfl⟩
  case round =>
    obtain ⟨rfl, rfl⟩ := hrel
    go_upto_region 11 with (at_make; refine wpList_mk rfl _ _ _ rfl seqSliceP (base := wr.heap.size) (0 : Int) 0 rfl rfl rfl (by omega) (by unfold maxLen; omega) (Nat.le_refl _) ?_; intro v3 w3 hown3 hg3)
    have hb3 := below_make hg3
    obtain ⟨VO, cO, rfl, hcO⟩ := own_form hown3
    have HL3 := Lib.hid (below_self HLW.out hb3)
    have HB3 := Lib.hid ((hb3.block _ (hp_lt HBX.out)).trans HBX.out)
    have HO3 := Lib.hid hown3
    have c2' := hp_cell (j := 2) HB3.out rfl
    clear hown3 hg3 hb3 c2
    go_wp2_with fail
    clear c2'
    go_loopw [12, 70] (fun vo s70 ws => vo = .slice VO 0 cO ∧ s70 = .int .i64 0 ∧ ws = w3) (fun _ _ _ => 0)
    case atStart => exact ⟨rfl, rfl, rfl⟩
    case round =>
      obtain ⟨rfl, rfl, rfl⟩ := hrel
      have HRO : Hid (RO wr VO 0 []) := Lib.hid ⟨Rd.of_own HO3.out, by simp⟩
      go_wp2_with fail
      go_ret
      exact ⟨⟨_, _, _, [], rfl, HRO.out, rfl, ⟨fun h => absurd h (by omega), by simp⟩⟩, HL3.out⟩
theorem RO.nil_ (w : World) : RO w none 0 [] := ⟨Rd.nil_, by simp⟩
set_option maxRecDepth 100000 in
set_option maxHeartbeats 4000000 in
theorem sqSeqs_any (A B C : Option Addr) (n c m d k q : Nat) (lv cl bf : List Int) (level : Int) (w : World) (hr : Rd w 1 A n (lv.map (Value.int .i64))) (hs : Rd w 1 B m (cl.map (Value.int .i64))) (ht : Rd w 1 C k (bf.map (Value.int .i64))) (hn : n ≤ 100000) (hm : m ≤ 100000) :
    Calls Tryz.prog 25 #[.slice A n c, .slice B m d, .slice C k q, .int .i64 level] w fun e w' => SeqsAns w w' (seqsG lv cl bf level) e ∧ Below w.heap.size w w' := by
  have hll : lv.length = n := by simpa using hr.len1
  have hlc : cl.length = m := by simpa using hs.len1
  have hlb : bf.length = k := by simpa using ht.len1
  unfold seqsG
  by_cases hk : k = m
  · subst hk
    by_cases hn2 : n = k
    · subst hn2
      rw [if_pos ⟨by omega, by omega⟩]
      exact sqSeqs_same A B C n c d q lv cl bf level w hr hs ht hn
    · rw [if_neg (fun h => hn2 (by omega))]
      exact sqSeqs_few A B C n k c d q lv cl bf level w hr hs ht hn hm hn2
  · rw [if_neg (fun h => hk (by omega))]
    have g1 : ((k : Int) != (m : Int)) = true := by simp; omega
    clear hr hs ht hll hlc hlb
    go_enter Tryz.func25, Tryz.ntmps25
    go_wp2_with fail
    go_ret
    exact ⟨⟨_, _, _, [], rfl, RO.nil_ _, rfl, ⟨fun h => absurd h (by omega), by simp⟩⟩, Below.refl _ _⟩
end Go.Proofs.YtdgomaoikeffhaaGreat
/- A slice behind a store elsewhere. -/
namespace Go.Proofs.YtdgomaoikeffhaaGreat
open Go.RowKit

theorem encN_at {P : List Nat} {k x : Nat} (h : P[k]? = some x) : ((encN P).map (Value.int .i64))[k]? = some (.int .i64 (x : Int)) := by
  unfold encN
  rw [List.getElem?_map, List.getElem?_map, h]
  rfl
theorem Rd.farSet {w : World} {size m g i : Nat} {A : Option Addr} {xs : List Value} {u : Value} (h : Rd w size A m xs) (hne : 0 < m → ∀ ad, A = some ad → ad.block ≠ g) : Rd (w.setCell ⟨g, i, none⟩ u) size A m xs :=
  ⟨h.1, fun h0 => by
    obtain ⟨ad, e, hlt, hc⟩ := h.2 h0
    exact ⟨ad, e, by simpa [World.setCell] using hlt, fun j v hv => (cellHeap (by rw [blockAdd]; exact hp_far (hne h0 ad e) _ _)).trans (hc j v hv)⟩⟩
end Go.Proofs.YtdgomaoikeffhaaGreat
/- explicit: right, step, walked. -/
namespace Go.Proofs.YtdgomaoikeffhaaGreat
open Go.RowKit

/-- What right answers: it may part from the document's only where it makes no odds. -/
def RightAns (s : Stk) (xs : List Int) (k : Nat) (e : Ending) : Prop := ∃ r, e = .returned (.bool r) ∧ isoS s r = isoS s (rightC xs k)
section
variable {bw g n c mc : Nat} {A M : Option Addr} {xs : List Int} {base : Int} {s : Stk}
set_option maxRecDepth 100000 in
set_option maxHeartbeats 2000000 in
theorem exRight_any (k : Nat) (x : Int) (w : World) (h : WlkAt w bw g A n c xs M mc base s) (hx : xs[k]? = some x) (hn : n ≤ 100000) (hnc : n ≤ c) (hfm : ∀ y ∈ matF xs, Fit y) : Calls Tryz.prog 56 #[.pointer (some ⟨bw, 0, none⟩), .int .i64 (k : Int), .int .i64 x] w fun e w' => RightAns s xs k e ∧ Below w.heap.size w w' := by
  have hg : xs.getD k 0 = x := by rw [List.getD_eq_getElem?_getD, hx]; rfl
  by_cases h21 : x = 21
  · subst h21
    have HF := Lib.hid (exFull_any w h)
    obtain ⟨fl, hfl⟩ : ∃ fl, fullS s = fl := ⟨_, rfl⟩
    rw [hfl] at HF
    cases fl with
    | true =>
      have HR : Hid (isoS s false = isoS s (rightC xs k)) := Lib.hid (by rw [iso_no (full_room hfl _), iso_no (full_room hfl _)])
      clear h hfl hx hg
      go_enter Tryz.func56, Tryz.ntmps56
      go_wp2_with fail
      refine HF.out.mono ?_
      rintro e w1 ⟨rfl, hb1⟩
      have HB1 := Lib.hid hb1
      clear hb1
      go_wp2
      go_ret
      exact ⟨⟨false, rfl, HR.out⟩, HB1.out⟩
    | false =>
      have hr : rightC xs k = decide (firstF xs ((k : Int) + 1, (matF xs).getD k 0) = 1) := by unfold rightC; rw [if_pos hg]
      obtain ⟨m, hm⟩ : ∃ m, (matF xs)[k]? = some m := by
        have hl := h.mt.1.1
        have hk := (List.getElem?_eq_some_iff.1 hx).1
        have hl2 := h.cl.1.1
        simp at hl hl2
        exact ⟨_, List.getElem?_eq_getElem (by omega)⟩
      have hmd : (matF xs).getD k 0 = m := by rw [List.getD_eq_getElem?_getD, hm]; rfl
      rw [hmd] at hr
      have hFm := hfm m (List.mem_of_getElem? hm)
      have hkn : k < n := by
        have hk := (List.getElem?_eq_some_iff.1 hx).1
        have hl2 := h.cl.1.1
        simp at hl2
        omega
      have HW := Lib.hid h
      have HRR := Lib.hid hr
      clear hx hg hfl h hr hmd
      go_enter Tryz.func56, Tryz.ntmps56
      go_wp2_with fail
      refine HF.out.mono ?_
      rintro e w1 ⟨rfl, hb1⟩
      have HB1 := Lib.hid hb1
      have hW := HW.out.low hb1
      have c2 := hW.c2
      have c3 := hW.c3
      have hcl := hW.cl.1
      obtain ⟨md, rfl, hmb, hmcell⟩ := hW.mt.1.at_ hkn
      have cm := hmcell _ (by rw [List.getElem?_map, hm]; rfl)
      have HP := Lib.hid (fun W (k' : Below w1.heap.size w1 W) => prFirst_any A n c xs ((k : Int) + 1) m W (hcl.below k') (by omega) hnc (by unfold Fit; omega) hFm)
      obtain ⟨f, hf⟩ : ∃ f, firstF xs ((k : Int) + 1, m) = f := ⟨_, rfl⟩
      rw [hf] at HP HRR
      have hk0 : (0 : Int) ≤ (k : Int) := by omega
      have hkn' : (k : Int) < (n : Int) := by omega
      have hk5 : (k : Int) ≤ 100000 := by omega
      have hwr : IntKind.i64.wrap ((k : Int) + 1) = (k : Int) + 1 := by rw [IntKind.wrap_i64]; omega
      clear hW hcl hmcell hb1 hf
      go_wp2
      go_region_held3 (fun w' => w'.cell? ⟨bw, 2, none⟩ = some (.slice A n c) ∧ w'.cell? ⟨bw, 3, none⟩ = some (.slice (some md) n mc) ∧ w'.cell? (md.add k) = some (.int .i64 m) ∧ Below w1.heap.size w1 w')
        (first
          | exact ⟨c2, c3, cm, (Below.refl _ _).drew⟩
          | assumption
          | exact ⟨cell_below h1 c2, cell_below h1 c3, cell_below h1 cm, below_self (Below.refl _ _).drew h1⟩
          | exact ⟨cell_below h1 (by assumption : _ ∧ _ ∧ _ ∧ Below w1.heap.size w1 _).1, cell_below h1 (by assumption : _ ∧ _ ∧ _ ∧ Below w1.heap.size w1 _).2.1, cell_below h1 (by assumption : _ ∧ _ ∧ _ ∧ Below w1.heap.size w1 _).2.2.1, below_self (by assumption : _ ∧ _ ∧ _ ∧ Below w1.heap.size w1 _).2.2.2 h1⟩
          | fail)
        (first
          | (go_at_call 36; with_reducible refine (HP.out _ (by first | exact (Below.refl _ _).drew | exact (by assumption : _ ∧ _ ∧ _ ∧ Below w1.heap.size w1 _).2.2.2)).mono ?_; rintro e w3 ⟨rfl, h1⟩)
          | fail)
      all_goals (
        have hz3 : Below w1.heap.size w1 w3 := (by
          first
            | exact (by assumption : _ ∧ _ ∧ _ ∧ Below w1.heap.size w1 w3).2.2.2
            | exact below_self (by assumption : _ ∧ _ ∧ _ ∧ Below w1.heap.size w1 _).2.2.2 h1)
        have HB3 := Lib.hid (below_self HB1.out hz3)
        clear hz3
        go_wp2
        go_ret
        exact ⟨⟨_, rfl, by rw [HRR.out]; congr 1⟩, HB3.out⟩)
  · have hr : rightC xs k = decide (x = 20) := by unfold rightC; rw [hg, if_neg h21]
    have hg21 : (x == 21) = false := by simp [h21]
    have HR := Lib.hid hr
    clear h hx hg hr
    by_cases h20 : x = 20
    · subst h20
      go_enter Tryz.func56, Tryz.ntmps56
      go_wp2
      go_ret
      exact ⟨⟨_, rfl, by rw [HR.out]; rfl⟩, Below.refl _ _⟩
    · have hg20 : (x == 20) = false := by simp [h20]
      go_enter Tryz.func56, Tryz.ntmps56
      go_wp2
      go_ret
      exact ⟨⟨false, rfl, by rw [HR.out]; simp [h20]⟩, Below.refl _ _⟩
end
end Go.Proofs.YtdgomaoikeffhaaGreat
