/- Texts of one claim, one behind the other. -/
import Derived.Deep.RegionHeld3
import Derived.Deep.RegionLaw
import Derived.Test.YtdgomaoikeffhaaGreatMgAp2
import Derived.Test.YtdgomaoikeffhaaGreatMgAp9
import Derived.Test.YtdgomaoikeffhaaGreatMgAp11
import Derived.Test.YtdgomaoikeffhaaGreatMgAp26
import Derived.Test.YtdgomaoikeffhaaGreatMgAp32
/- resolve.Levels, walked. -/
namespace Go.Proofs.YtdgomaoikeffhaaGreat
open Go.RowKit Go.Shelf

theorem resU_next {xs : List Int} {d : Int} {P : List Sp} {i : Nat} {s : Sp} (h : P[i]? = some s) : resU xs d (P.take (i + 1)) = resU xs d (P.take i) ++ levP d (subL xs s) := by
  rw [List.take_add_one, h]
  exact resU_snoc xs d _ s
theorem subL_partF (xs : List Int) {lo hi : Nat} : subL xs ((lo : Int), (hi : Int)) = partF xs lo hi := by
  unfold subL partF
  simp only [Int.toNat_natCast]
  rw [List.drop_take]
theorem partF_map (xs : List Int) (lo hi : Nat) : partF (xs.map classF) lo hi = (partF xs lo hi).map classF := by
  unfold partF
  rw [← List.map_drop, ← List.map_take]
theorem rd_sub {w : World} {ad : Addr} {n lo hi : Nat} {xs : List Int} (h : Rd w 1 (some ad) n (xs.map (Value.int .i64))) (hlh : lo < hi) (hhn : hi ≤ n) : Rd w 1 (some (ad.add lo)) (hi - lo) ((partF xs lo hi).map (Value.int .i64)) := by
  have hl : xs.length = n := by simpa using h.len1
  refine ⟨by rw [List.length_map, partF_len _ _ _ (by omega)]; omega, fun _ => ?_⟩
  obtain ⟨ad', e, hb, hc⟩ := h.2 (by omega)
  obtain rfl := Option.some.inj e
  refine ⟨_, rfl, by rw [blockAdd]; exact hb, fun j u hu => ?_⟩
  unfold partF at hu
  rw [List.getElem?_map, List.getElem?_take] at hu
  split at hu
  · rw [List.getElem?_drop] at hu
    have := hc (lo + j) u (by rw [List.getElem?_map]; exact hu)
    rwa [addAdd]
  · simp at hu
set_option maxRecDepth 100000 in
set_option maxHeartbeats 4000000 in
theorem rvLevels_any (b : Nat) (A : Option Addr) (n c : Nat) (xs : List Int) (d : Int) (w : World) (hP : PropAt w b) (hr : Rd w 1 A n (xs.map (Value.int .i64))) (hn : n ≤ 1000) (hnc : n ≤ c) :
    Calls Tryz.prog 7 #[.pointer (some ⟨b, 0, none⟩), .slice A n c, .int .i64 d] w fun e w' => ∃ v0 v, e = .returned (.tuple #[v0, v]) ∧ w'.ownsRow w.heap.size 3 1 v (resL xs d).length ((resL xs d).map (Value.int .i64)) ∧ Below w.heap.size w w' := by
  have hlen : xs.length = n := by simpa using hr.len1
  have HL := Lib.hid hlen
  have HR := Lib.hid hr
  have HP := Lib.hid hP
  have HCC := Lib.hid (pcClasses_any b A n c xs w hP hr (by omega))
  have HSP := Lib.hid (fun W (hB : Below w.heap.size w W) => prSplit_any b A n c xs W (hP.below hB) (hr.below hB) (by omega))
  have hps := parL_parts xs
  have hpl : (parL xs).length ≤ n := by have := (parA_len xs xs.length).1; unfold parL; omega
  have HIN := Lib.hid (parL_in xs)
  rw [hlen] at hps
  have HPS := Lib.hid hps
  obtain ⟨P, hPe⟩ : ∃ P, parL xs = P := ⟨_, rfl⟩
  have HRES := Lib.hid (show resL xs d = resU xs d P by rw [← hPe]; rfl)
  rw [hPe] at hpl HIN HSP HPS
  obtain ⟨m, hm⟩ : ∃ m, P.length = m := ⟨_, rfl⟩
  rw [hm] at hpl HSP
  have HM := Lib.hid hm
  clear hlen hr hP hps hPe hm
  go_enter Tryz.func7, Tryz.ntmps7
  go_wp2_with (first
    | (go_at_call 11; refine HCC.out.mono ?_; rintro e w1 ⟨rfl, hown1, hb1⟩; have HC1 := Lib.hid hown1; have HB1 := Lib.hid hb1; clear hown1 hb1)
    | (go_at_call 12; refine (HSP.out _ HB1.out).mono ?_; rintro e w2 ⟨v2, rfl, hown2, hb2⟩; obtain ⟨A2, c2, he2, _⟩ := own_form hown2; subst he2; have HS2 := Lib.hid hown2; have HB12 := Lib.hid hb2; have HB2 := Lib.hid (below_self HB1.out hb2); have hs2 := HB2.out.size; clear hown2 hb2)
    | (refine wpList_mkFull rfl _ _ _ rfl (base := w2.heap.size) (e := 3) (bytes := 8) (z := .int .i64 0) Tryz.underlying22 (by kernel_rfl) rfl (m : Int) (m : Int) m rfl rfl rfl rfl (by omega) (by unfold maxLen; omega) (Nat.le_refl _) ?_; intro w3 hown3 hg3; have hs3 := hg3.size)
    | (at_make; refine wpList_mk rfl _ _ _ rfl cloneInt_slice (base := w3.heap.size) (n : Int) n rfl rfl rfl (by omega) (by unfold maxLen; omega) (Nat.le_refl _) ?_; intro v4 w4 hown4 hg4)
    | fail)
  have HS3 := Lib.hid hs3
  obtain ⟨B3, hB3⟩ : ∃ B3, w3.heap.size = B3 := ⟨_, rfl⟩
  have hgb3 : w2.heap.size < B3 := by have := (hown3.lt w2.heap.size rfl).2; omega
  have hb3 := below_make hg3
  have hb4 := below_make hg4
  have hw4 : Below w2.heap.size w2 w4 := below_self hb3 hb4
  have hown34 := own_below hown3 hb4
  rw [hB3] at hown4
  have HQ2 := Lib.hid (Rd.of_own HS2.out)
  have HO4 := Lib.hid hown4
  have HO3 := Lib.hid hown34
  have HW4 := Lib.hid hw4
  have hg12 : w.heap.size ≤ w2.heap.size := by omega
  have hB4 : B3 ≤ w4.heap.size := by have := hg4.size; omega
  have HB4S := Lib.hid hB4
  clear hown3 hown4 hg3 hg4 hb3 hb4 hw4 hown34 hs3
  go_loopw [11, 30] (fun v t wr => ∃ (i p : Nat) (bs : List Value), i ≤ m ∧ t = .int .i64 (i : Int) ∧ Hid (p = (resU xs d (P.take i)).length) ∧ p ≤ 1000 * i ∧ wr.ownsRow B3 3 1 v p ((resU xs d (P.take i)).map (Value.int .i64)) ∧ wr.ownsRow w2.heap.size 3 1 (.slice (some ⟨w2.heap.size, 0, none⟩) m m) m bs ∧ Below w2.heap.size w2 wr ∧ Hid (B3 ≤ wr.heap.size)) (fun _ t _ => m - (intOf t).toNat)
  case atStart => exact ⟨0, 0, _, Nat.zero_le _, rfl, Lib.hid rfl, by omega, HO4.out, HO3.out, HW4.out, HB4S⟩
  case round =>
    obtain ⟨i, p, bs, hi, rfl, HPL, hp, hown, hownb, hb, HBS⟩ := hrel
    have HO := Lib.hid hown
    have HOB := Lib.hid hownb
    have HB := Lib.hid hb
    clear hown hownb hb
    by_cases hlt : i < m
    · obtain ⟨s, hsp⟩ : ∃ s, P[i]? = some s := ⟨_, List.getElem?_eq_getElem (by rw [HM.out]; exact hlt)⟩
      have hin := HIN.out s (List.mem_of_getElem? hsp)
      rw [HL.out] at hin
      obtain ⟨x, y⟩ := s
      simp only at hin
      obtain ⟨lo, rfl⟩ : ∃ lo : Nat, x = (lo : Int) := ⟨x.toNat, by omega⟩
      obtain ⟨hi2, rfl⟩ : ∃ hi2 : Nat, y = (hi2 : Int) := ⟨y.toNat, by omega⟩
      have hlh : lo < hi2 := by omega
      have hhn : hi2 ≤ n := by omega
      have HNX := Lib.hid (resU_next (xs := xs) (d := d) hsp)
      rw [subL_partF] at HNX
      have hb2w : Below w2.heap.size w2 wr := HB.out
      have hbw : Below w.heap.size w wr := below_self HB2.out hb2w
      obtain ⟨ad, hae, hab, c1, c2⟩ := (HQ2.out.below hb2w).span hsp
      subst hae
      simp only at c1 c2
      obtain ⟨bd, hbe, hbb, _⟩ := HR.out.2 (by omega)
      subst hbe
      have HX := Lib.hid (rd_sub HR.out hlh hhn)
      have HC1' := Lib.hid (Rd.of_own HC1.out)
      have HY := Lib.hid (rd_sub HC1'.out hlh hhn)
      rw [partF_map, addNew] at HY
      obtain ⟨part, hpart⟩ : ∃ part, partF xs lo hi2 = part := ⟨_, rfl⟩
      have hpl2 : part.length = hi2 - lo := by rw [← hpart, partF_len _ _ _ (by rw [HL.out]; omega)]
      rw [hpart] at HX HY HNX
      have HNV := Lib.hid (fun W (hB : Below w1.heap.size w1 W) => nuLevelsG_any (some (bd.add lo)) (some ⟨w.heap.size, lo, none⟩) (hi2 - lo) (c - lo) (n - lo) part (part.map classF) d W (HX.out.below (below_self HB1.out hB)) (HY.out.below hB) (by omega) (by omega))
      have HLV := Lib.hid (levP_len d part)
      rw [hpl2] at HLV
      have hlvp : levP d part = neuL part (part.map classF) (levelF (part.map classF) d) := rfl
      rw [hlvp] at HLV HNX
      obtain ⟨ba, hba⟩ : ∃ ba, levelF (part.map classF) d = ba := ⟨_, rfl⟩
      rw [hba] at HNV HLV HNX
      obtain ⟨V, hV⟩ : ∃ V, neuL part (part.map classF) ba = V := ⟨_, rfl⟩
      rw [hV] at HNV HLV HNX
      have hBa := below_new wr (.cells #[.int .i64 (lo : Int), .int .i64 (hi2 : Int)] 33)
      have k0 : (wr.alloc (.cells #[.int .i64 (lo : Int), .int .i64 (hi2 : Int)] 33)).cell? ⟨wr.heap.size, 0, none⟩ = some (.int .i64 (lo : Int)) := cells_new wr [.int .i64 (lo : Int), .int .i64 (hi2 : Int)] _ 0 _ rfl
      have k1 : (wr.alloc (.cells #[.int .i64 (lo : Int), .int .i64 (hi2 : Int)] 33)).cell? ⟨wr.heap.size, 1, none⟩ = some (.int .i64 (hi2 : Int)) := cells_new wr [.int .i64 (lo : Int), .int .i64 (hi2 : Int)] _ 1 _ rfl
      obtain ⟨W0, hW0⟩ : ∃ W0, wr.alloc (.cells #[.int .i64 (lo : Int), .int .i64 (hi2 : Int)] 33) = W0 := ⟨_, rfl⟩
      rw [hW0] at hBa k0 k1
      have HBA := Lib.hid hBa
      have HB1W := Lib.hid (show Below w1.heap.size w1 W0 from HB12.out.trans ((hb2w.trans (hBa.mono hb2w.size)).mono HB12.out.size))
      have hcl1 : ¬ c = lo := by omega
      have hcl2 : ¬ n = lo := by omega
      have i1 : (lo : Int) ≤ (hi2 : Int) := by omega
      have i2 : (hi2 : Int) ≤ (c : Int) := by omega
      have i3 : (hi2 : Int) ≤ (n : Int) := by omega
      have i4 : (0 : Int) ≤ (lo : Int) := by omega
      have i5 : (n : Int) ≤ 1000 := by omega
      have him : (i : Int) < (m : Int) := by omega
      clear hsp hin hb2w hbw hba hV hlvp hpart hpl2 hBa
      go_upto_region 8 with fail
      go_cut [14, 15] (fun s14 s15 wx => s14 = .int .i64 ba ∧ ∃ ga, s15 = .slice (some ⟨ga, 0, none⟩) (hi2 - lo) (hi2 - lo) ∧ Rd wx 1 (some ⟨ga, 0, none⟩) (hi2 - lo) (V.map (Value.int .i64)) ∧ Hid (W0.heap.size ≤ ga) ∧ Below W0.heap.size W0 wx)
      case first =>
        go_region_held3 (fun w' => w'.cell? ⟨wr.heap.size, 0, none⟩ = some (.int .i64 (lo : Int)) ∧ w'.cell? ⟨wr.heap.size, 1, none⟩ = some (.int .i64 (hi2 : Int)) ∧ Below W0.heap.size W0 w')
          (first
            | exact ⟨k0, k1, (Below.refl _ _).drew⟩
            | exact ⟨cell_below h1 (by assumption : _ ∧ _ ∧ Below W0.heap.size W0 _).1, cell_below h1 (by assumption : _ ∧ _ ∧ Below W0.heap.size W0 _).2.1, below_self (by assumption : _ ∧ _ ∧ Below W0.heap.size W0 _).2.2 h1⟩
            | exact ⟨cell_below h1 k0, cell_below h1 k1, below_self (Below.refl _ _).drew h1⟩
            | fail)
          (first
            | (go_at_call 13; with_reducible refine (HNV.out _ (below_self HB1W.out (by first | exact (Below.refl _ _).drew | exact (by assumption : _ ∧ _ ∧ Below W0.heap.size W0 _).2.2))).mono ?_; rintro e w5 ⟨⟨ga, rfl, hr5, hga⟩, h1⟩)
            | fail)
        have hfin := (by assumption : _ ∧ _ ∧ Below W0.heap.size W0 _).2.2
        have HGA := Lib.hid (show W0.heap.size ≤ ga from hga)
        have HFI := Lib.hid hfin
        have HR5 := Lib.hid hr5
        go_wp2
        go_meet
        case rel => exact ⟨rfl, ga, rfl, HR5.out, HGA, HFI.out⟩
      case rest =>
        obtain ⟨rfl, ga, rfl, hr5, HGA, hb5⟩ := hcut
        have hW0s : W0.heap.size = wr.heap.size + 1 := by rw [← hW0, World.size_alloc]
        have HB5 := Lib.hid (HBA.out.trans (hb5.mono (by omega)))
        have HO5 := Lib.hid (own_below HO.out HB5.out)
        have HOB5 := own_below HOB.out HB5.out
        obtain ⟨⟨u9, hu9⟩, hf9⟩ := own_slot HOB5 (j := i) (by omega)
        have HST := Lib.hid (HOB5.stored i (.int .i64 ba)).1
        have hvne : u11.ownBlock ≠ some w2.heap.size := fun e => by have := (HO.out.lt _ e).1; omega
        have HVNE := Lib.hid hvne
        have HO6 := Lib.hid (own_set_far (i := i) (u := .int .i64 ba) HO5.out hvne)
        have hwrs := HB.out.size
        have HBW6 := Lib.hid ((HB.out.trans (HB5.out.mono (by omega))).setCell (p := ⟨w2.heap.size, i, none⟩) (Nat.le_refl _) (.int .i64 ba))
        have hga := HGA.out
        have HR6 : Hid (Rd (wc.setCell ⟨w2.heap.size, i, none⟩ (.int .i64 ba)) 1 (some ⟨ga, 0, none⟩) (hi2 - lo) (V.map (Value.int .i64))) := Lib.hid ⟨hr5.1, fun h => by
          obtain ⟨a0, e0, hlt0, hc0⟩ := hr5.2 h
          cases e0
          refine ⟨_, rfl, by simpa [World.setCell] using hlt0, fun j u hu => ?_⟩
          refine (World.cell?_of_block (a := (⟨ga, 0, none⟩ : Addr).add j) ?_).trans (hc0 j u hu)
          rw [blockAdd]
          exact hp_far (g := w2.heap.size) (k := ga) (by omega) i (.int .i64 ba)⟩
        have hsz6 : B3 ≤ (wc.setCell ⟨w2.heap.size, i, none⟩ (.int .i64 ba)).heap.size := by
          have h1 := HBS.out
          have h2 := hb5.size
          simp only [World.setCell, Array.size_modify]
          omega
        clear hr5 hb5 HOB5 k0 k1 hW0 HBA HB1W HNV HX HY hga hab c1 c2
        generalize hW6 : wc.setCell ⟨w2.heap.size, i, none⟩ (.int .i64 ba) = W6 at *
        go_wp2_with (first
          | (at_builtin; refine wpList_appR rfl _ _ _ rfl cloneInt_slice (by decide) _ p _ rfl HO6.out (some ⟨ga, 0, none⟩) (hi2 - lo) (hi2 - lo) _ rfl HR6.out (oneInts _ _) (by omega) (by unfold maxLen; omega) hsz6 ?_; intro v7 w7 hown7 hg7 hat7)
          | fail)
        have HL7 : Hid (w7.ownsRow B3 3 1 v7 (p + (hi2 - lo)) ((resU xs d (P.take (i + 1))).map (Value.int .i64))) := Lib.hid (by rw [HNX.out, List.map_append]; exact hown7)
        have HP7 : Hid (p + (hi2 - lo) = (resU xs d (P.take (i + 1))).length) := Lib.hid (by rw [HNX.out, List.length_append, HLV.out, HPL.out])
        have HST7 := Lib.hid (HST.out.kept hg7 (.inr (fun e => HVNE.out e.symm)))
        have HB7 := Lib.hid (HBW6.out.grown hg7 HBW6.out.size (fun k e => by have := (HO6.out.lt _ e).1; omega))
        have HBS7 := Lib.hid (show B3 ≤ w7.heap.size from Nat.le_trans hsz6 hg7.size)
        go_roundw
        case rel => exact ⟨i + 1, p + (hi2 - lo), _, by omega, by go_num, HP7, by omega, HL7.out, HST7.out, HB7.out, HBS7⟩
        case measure => simp [intOf]; omega
    · obtain rfl : i = m := by omega
      have HZ := Lib.hid (show P.take i = P from List.take_of_length_le (by rw [HM.out]; omega))
      rw [HZ.out] at HO HPL
      rw [← HRES.out] at HO HPL
      go_wp2_with fail
      go_ret2
      exact ⟨_, _, rfl, by rw [← HPL.out]; exact own_base HO.out (by omega), HB2.out.trans (HB.out.mono HB2.out.size)⟩
end Go.Proofs.YtdgomaoikeffhaaGreat
/- naskhlaw27.ResolveApart. -/
namespace Go.Proofs.YtdgomaoikeffhaaGreat
open Go.RowKit Go.Shelf

theorem class_par : classF 8233 = 10 := by decide +kernel
theorem wpList_appG {P : Program} {w : World} {ops : Array Oper} {rest : List Oper} {o : Oper} {a : Act} {Q : Exit → Act → World → Prop} (hw : Region.wanted o (yielded ops a.tmps) = true) (s x : Operand) (t : TypeId)
    (ho : o.op = .call { callee := .builtin .append, args := #[s, x], argTypes := #[t, t] })
    {base : Nat} {e : TypeId} {size bytes : Nat} (S : SliceOf P t e size bytes) (hsz : 0 < size)
    (v : Value) (n : Nat) (xs : List Value) (hs : a.eval s = v) (hown : w.ownsRow base e size v n xs)
    (A : Option Addr) (m c : Nat) (news : List Value) (hx : a.eval x = .slice A m c) (hr : Rd w size A m news) (h1 : ∀ u ∈ news, u.oneCell' = true)
    (hbytes : (n + m) * bytes ≤ 140737488355328) (h63 : n + m ≤ maxLen) (hbase : base ≤ w.heap.size)
    (h : ∀ v' w', w'.ownsRow base e size v' (n + m) (xs ++ news) → w.grownBy w' v.ownBlock → (v'.ownBlock = v.ownBlock ∨ v'.ownBlock = some w.heap.size) → wpList P ops Q rest (a.put o.dst v') w') :
    wpList P ops Q (o :: rest) a w := by
  refine wpList_step fun K hK => ?_
  rw [if_pos hw]
  obtain ⟨v', w', hrun, h2, h3, h5⟩ := run_appR (P := P) w t o.type S hsz v n xs hown A m c news hr h1 hbytes h63 hbase
  unfold Oper.wp execOp
  simp only [ho, resolve, invoke, builtin, Sem.run_bind, Sem.run_pure, Result.andThen_ok, List.map_toArray, List.map_cons, List.map_nil, hs, hx, hrun]
  exact hK _ _ (h v' w' h2 h3 h5)
theorem own_keep {w0 w w' : World} {b b' : Nat} {e e' : TypeId} {s s' n m : Nat} {v u : Value} {xs ys : List Value} (h0 : w0.ownsRow b e s v n xs) (h : w.ownsRow b e s v n xs) (hu : w.ownsRow b' e' s' u m ys) (hb : w0.heap.size ≤ b') (hg : w.grownBy w' u.ownBlock) : w'.ownsRow b e s v n xs := by
  refine h.kept hg ?_
  rcases hv : v.ownBlock with _ | g
  · exact .inl rfl
  · refine .inr fun e => ?_
    have h1 := (h0.lt g hv).2
    have h2 := (hu.lt g e.symm).1
    omega
theorem own_keepL {w0 w w' : World} {b b' : Nat} {e e' : TypeId} {s s' n m : Nat} {v u : Value} {xs ys : List Value} (hu : w0.ownsRow b' e' s' u m ys) (h : w.ownsRow b e s v n xs) (hb : w0.heap.size ≤ b) (hg : w.grownBy w' u.ownBlock) : w'.ownsRow b e s v n xs := by
  refine h.kept hg ?_
  rcases hv : v.ownBlock with _ | g
  · exact .inl rfl
  · refine .inr fun e => ?_
    have h1 := (hu.lt g e.symm).2
    have h2 := (h.lt g hv).1
    omega
set_option maxRecDepth 100000 in
set_option maxHeartbeats 4000000 in
theorem resolveApart_any (A B : Option Addr) (n m c k : Nat) (cs bs : List Int) (d : Int) (w : World) (hr : Rd w 1 A n (cs.map (Value.int .i64))) (hs : Rd w 1 B m (bs.map (Value.int .i64))) (hn : n ≤ maxLen) (hm : m ≤ maxLen) (_hnc : n ≤ c) (hmk : m ≤ k) :
    Calls Tryz.prog 3 #[.slice A n c, .slice B m k, .int .i64 d] w fun e w' => e = .returned (.bool true) ∧ Below w.heap.size w w' := by
  unfold maxLen at hn hm
  have HAW := Lib.hid awakeRv_any
  by_cases hn3 : 100 < n
  · have g1 : decide ((100 : Int) < (n : Int)) = true := decide_eq_true (by omega)
    clear hr hs
    go_enter Tryz.func3, Tryz.ntmps3
    go_wp2_with (first
      | (go_at_call 4; refine (HAW.out _).mono ?_; rintro e w1 ⟨rfl, hb1⟩)
      | fail)
    go_ret
    exact ⟨rfl, hb1⟩
  have g1 : decide ((100 : Int) < (n : Int)) = false := decide_eq_false (by omega)
  by_cases hm3 : 100 < m
  · have g2 : decide ((100 : Int) < (m : Int)) = true := decide_eq_true (by omega)
    clear hr hs
    go_enter Tryz.func3, Tryz.ntmps3
    go_wp2_with (first
      | (go_at_call 4; refine (HAW.out _).mono ?_; rintro e w1 ⟨rfl, hb1⟩)
      | fail)
    go_ret
    exact ⟨rfl, hb1⟩
  have g2 : decide ((100 : Int) < (m : Int)) = false := decide_eq_false (by omega)
  have hlA : cs.length = n := by simpa using hr.len1
  have hlB : bs.length = m := by simpa using hs.len1
  -- what follows where the guard lets the law go on
  have main : ((0 < m ∧ ∃ bd y, B = some bd ∧ w.cell? bd = some (.int .i64 y) ∧ (y == 10) = false) ∨ m = 0) → Calls Tryz.prog 3 #[.slice A n c, .slice B m k, .int .i64 d] w fun e w' => e = .returned (.bool true) ∧ Below w.heap.size w w' := by
    intro hg
    have hXl : (resL (cs ++ [8233]) d).length = n + 1 := by rw [resL_len]; simp [hlA]
    have hYl : (resL bs d).length = m := by rw [resL_len, hlB]
    have hZ : resL ((cs ++ [8233]) ++ bs) d = resL (cs ++ [8233]) d ++ resL bs d := resL_app class_par (by decide)
    have hFl : (cs ++ [8233]).length = n + 1 := by simp [hlA]
    obtain ⟨F, hF⟩ : ∃ F, cs ++ [8233] = F := ⟨_, rfl⟩
    rw [hF] at hXl hZ hFl
    obtain ⟨p, hp⟩ : ∃ p, n + 1 = p := ⟨_, rfl⟩
    obtain ⟨q, hq⟩ : ∃ q, p + m = q := ⟨_, rfl⟩
    have hp0 : 0 < p := by omega
    have hq0 : 0 < q := by omega
    have hp1 : p ≤ 101 := by omega
    have hq1 : q ≤ 201 := by omega
    have hmq : m ≤ q := by omega
    have hqi : (p : Int) + (m : Int) = (q : Int) := by omega
    have HPN := Lib.hid hp
    have HQN := Lib.hid hq
    rw [hp] at hXl hFl
    have HLF := Lib.hid (fun (b : Nat) (g cc : Nat) W (hP : PropAt W b) (h : Rd W 1 (some ⟨g, 0, none⟩) p (F.map (Value.int .i64))) (hcc : p ≤ cc) => rvLevels_any b (some ⟨g, 0, none⟩) p cc F d W hP h (by omega) hcc)
    have HLB := Lib.hid (fun (b : Nat) W (hP : PropAt W b) (h : Below w.heap.size w W) => rvLevels_any b B m k bs d W hP (hs.below h) (by omega) hmk)
    have HLZ := Lib.hid (fun (b : Nat) (g cc : Nat) W (hP : PropAt W b) (h : Rd W 1 (some ⟨g, 0, none⟩) q ((F ++ bs).map (Value.int .i64))) (hcc : q ≤ cc) => rvLevels_any b (some ⟨g, 0, none⟩) q cc (F ++ bs) d W hP h (by omega) hcc)
    have hZl : (resL F d ++ resL bs d).length = q := by rw [List.length_append, hXl, hYl, hq]
    rw [hZ, hZl] at HLZ
    rw [hXl] at HLF
    rw [hYl] at HLB
    obtain ⟨X, hX⟩ : ∃ X, resL F d = X := ⟨_, rfl⟩
    obtain ⟨Y, hY⟩ : ∃ Y, resL bs d = Y := ⟨_, rfl⟩
    rw [hX] at HLF HLZ
    rw [hY] at HLB HLZ
    have HCA := Lib.hid (fun W (hB : Below w.heap.size w W) => cloneInt_any A n c (cs.map (Value.int .i64)) W (hr.below hB) (oneInts _ _) (by omega))
    have HCF := Lib.hid (fun (g cc : Nat) W (h : Rd W 1 (some ⟨g, 0, none⟩) p (F.map (Value.int .i64))) => cloneInt_any (some ⟨g, 0, none⟩) p cc (F.map (Value.int .i64)) W h (oneInts _ _) (by omega))
    have HRB := Lib.hid (fun W (hB : Below w.heap.size w W) => hs.below hB)
    have HF := Lib.hid hF
    have HNW := Lib.hid prNew_any
    clear hr hs hlA hlB hXl hYl hZ hFl hZl hX hY hF hp hq
    rcases hg with ⟨hm0, bd, y, rfl, hy, hy10⟩ | rfl
    · have hm0i : (0 : Int) < (m : Int) := by omega
      go_enter Tryz.func3, Tryz.ntmps3
      go_wp2_with (first
        | (go_at_call 5; with_reducible refine (HNW.out _).mono ?_; rintro e w1 ⟨⟨b, rfl, hP⟩, hb1⟩; have HP1 := Lib.hid hP; have HB1 := Lib.hid hb1; have HK1 := Lib.hid (Below.refl w1.heap.size w1); clear hP hb1)
        | (go_at_call 6; with_reducible refine (HCA.out _ HB1.out).mono ?_; rintro e w2 ⟨v2, rfl, hv2, hb2⟩; have HV2 := Lib.hid hv2; have HK2 := Lib.hid hb2; have hs2 := hb2.size; clear hv2 hb2)
        | (at_builtin; refine wpList_app rfl _ _ _ rfl cloneInt_slice (by decide) v2 n _ rfl (HV2.out.alloc _) ⟨w2.heap.size, 0, none⟩ 1 1 [.int .i64 8233] rfl rfl (cells_new w2 [_] _) (oneInt _ _) (by omega) (by unfold maxLen; omega) (Nat.le_trans hs2 (by simp)) ?_; intro v3 w3 hown3 hg3 hat3; have HK3 := Lib.hid (below_app (HK2.out.alloc hs2 _) hg3 (HV2.out.alloc _) (Nat.le_trans hs2 (by simp))); have hown3b : w3.ownsRow w1.heap.size 3 1 v3 p (F.map (Value.int .i64)) := (by rw [← HF.out, List.map_append, ← HPN.out]; exact hown3); obtain ⟨g3, c3, he3, hc3, hl3, hgb3, -⟩ := own_at hown3b hp0; subst he3; have HV3 := Lib.hid hown3b; have HP3 := Lib.hid (HP1.out.below HK3.out); have hs3 := HK3.out.size; clear hown3 hown3b hg3 hat3)
        | (go_at_call 7; with_reducible refine (HLF.out b g3 c3 _ HP3.out (Rd.of_own HV3.out) hc3).mono ?_; rintro e w4 ⟨v40, v4, rfl, hv4, hb4⟩; obtain ⟨A4, c4, he4, _⟩ := own_form hv4; subst he4; have HX4 := Lib.hid hv4; have HV4 := Lib.hid (own_below HV3.out hb4); have HK4 := Lib.hid (HK3.out.trans (hb4.mono hs3)); have HP4 := Lib.hid (HP1.out.below HK4.out); have hs4 := HK4.out.size; have hs34 := hb4.size; clear hv4 hb4)
        | (go_at_call 7; with_reducible refine (HLB.out b _ HP4.out (below_self HB1.out HK4.out)).mono ?_; rintro e w5 ⟨v50, v5, rfl, hv5, hb5⟩; obtain ⟨A5, c5, he5, _⟩ := own_form hv5; subst he5; have HY5 := Lib.hid hv5; have HX5 := Lib.hid (own_below HX4.out hb5); have HV5 := Lib.hid (own_below HV4.out hb5); have HK5 := Lib.hid (HK4.out.trans (hb5.mono hs4)); have HP5 := Lib.hid (HP1.out.below HK5.out); have hs5 := HK5.out.size; have hs45 := hb5.size; clear hv5 hb5)
        | (go_at_call 6; with_reducible refine (HCF.out g3 c3 w5 (Rd.of_own HV5.out)).mono ?_; rintro e w6 ⟨v6, rfl, hv6, hb6⟩; have HV6 := Lib.hid hv6; have HX6 := Lib.hid (own_below HX5.out hb6); have HY6 := Lib.hid (own_below HY5.out hb6); have HK6 := Lib.hid (HK5.out.trans (hb6.mono hs5)); have hs6 := HK6.out.size; have hs56 := hb6.size; clear hv6 hb6)
        | (at_builtin; refine wpList_appR rfl _ _ _ rfl cloneInt_slice (by decide) v6 p _ rfl HV6.out (some bd) m k _ rfl (HRB.out w6 (below_self HB1.out HK6.out)) (oneInts _ _) (by omega) (by unfold maxLen; omega) hs56 ?_; intro v7 w7 hown7 hg7 hat7; have hs67 := hg7.size; have HK7 := Lib.hid (below_app HK6.out hg7 (own_base HV6.out hs5) hs6); have HX7 := Lib.hid (own_keep HX5.out HX6.out HV6.out (Nat.le_refl _) hg7); have HY7 := Lib.hid (own_keep HY5.out HY6.out HV6.out (Nat.le_refl _) hg7); have hown7b : w7.ownsRow w5.heap.size 3 1 v7 q ((F ++ bs).map (Value.int .i64)) := (by rw [List.map_append, ← HQN.out]; exact hown7); obtain ⟨g7, c7, he7, hc7, hl7, hgb7, -⟩ := own_at hown7b hq0; subst he7; have HV7 := Lib.hid hown7b; have HP7 := Lib.hid (HP1.out.below HK7.out); have hs7 := HK7.out.size; have hs37 := Nat.le_trans (Nat.le_trans hs34 hs45) (Nat.le_trans hs56 hs67); clear hown7 hown7b hg7 hat7)
        | (go_at_call 7; with_reducible refine (HLZ.out b g7 c7 _ HP7.out (Rd.of_own HV7.out) hc7).mono ?_; rintro e w8 ⟨v80, v8, rfl, hv8, hb8⟩; obtain ⟨A8, c8, he8, _⟩ := own_form hv8; subst he8; have HZ8 := Lib.hid hv8; have HX8 := Lib.hid (own_below HX7.out hb8); have HY8 := Lib.hid (own_below HY7.out hb8); have HK8 := Lib.hid (HK7.out.trans (hb8.mono hs7)); have hs8 := HK8.out.size; have hs78 := hb8.size; have hs38 := Nat.le_trans hs37 hs78; clear hv8 hb8)
        | (at_builtin; refine wpList_appG (by rfl) _ _ _ rfl cloneInt_slice (by decide) (.slice A4 p c4) p _ rfl HX8.out A5 m c5 _ rfl (Rd.of_own HY8.out) (oneInts _ _) (by omega) (by unfold maxLen; omega) hs38 ?_; intro v9 w9 hown9 hg9 hat9; have HK9 := Lib.hid (below_app HK8.out hg9 (own_base HX8.out hs3) hs8); have HZ9 := Lib.hid (own_keepL HX7.out HZ8.out (Nat.le_refl _) hg9); have hown9b : w9.ownsRow w3.heap.size 3 1 v9 q ((X ++ Y).map (Value.int .i64)) := (by rw [List.map_append, ← HQN.out]; exact hown9); obtain ⟨A9, c9, he9, _⟩ := own_form hown9b; subst he9; have HV9 := Lib.hid hown9b; have hs9 := HK9.out.size; clear hown9 hown9b hg9 hat9)
        | (go_at_call 8; with_reducible refine (equalInt_b A8 A9 q q c8 c9 (X ++ Y) (X ++ Y) _ (Rd.of_own HZ9.out) (Rd.of_own HV9.out) (by unfold maxLen; omega) (by unfold maxLen; omega)).mono ?_; rintro e w10 ⟨rfl, hb10⟩; rw [decide_eq_true rfl]; have HK10 := Lib.hid (HK9.out.trans (hb10.mono hs9)); clear hb10)
        | (go_at_call 4; with_reducible refine (HAW.out _).mono ?_; rintro e w11 ⟨rfl, hb11⟩; have HB11 := Lib.hid (below_self (below_self HB1.out HK10.out) hb11); clear hb11)
        | fail)
      go_ret
      exact ⟨rfl, HB11.out⟩
    · go_enter Tryz.func3, Tryz.ntmps3
      go_wp2_with (first
        | (go_at_call 5; with_reducible refine (HNW.out _).mono ?_; rintro e w1 ⟨⟨b, rfl, hP⟩, hb1⟩; have HP1 := Lib.hid hP; have HB1 := Lib.hid hb1; have HK1 := Lib.hid (Below.refl w1.heap.size w1); clear hP hb1)
        | (go_at_call 6; with_reducible refine (HCA.out _ HB1.out).mono ?_; rintro e w2 ⟨v2, rfl, hv2, hb2⟩; have HV2 := Lib.hid hv2; have HK2 := Lib.hid hb2; have hs2 := hb2.size; clear hv2 hb2)
        | (at_builtin; refine wpList_app rfl _ _ _ rfl cloneInt_slice (by decide) v2 n _ rfl (HV2.out.alloc _) ⟨w2.heap.size, 0, none⟩ 1 1 [.int .i64 8233] rfl rfl (cells_new w2 [_] _) (oneInt _ _) (by omega) (by unfold maxLen; omega) (Nat.le_trans hs2 (by simp)) ?_; intro v3 w3 hown3 hg3 hat3; have HK3 := Lib.hid (below_app (HK2.out.alloc hs2 _) hg3 (HV2.out.alloc _) (Nat.le_trans hs2 (by simp))); have hown3b : w3.ownsRow w1.heap.size 3 1 v3 p (F.map (Value.int .i64)) := (by rw [← HF.out, List.map_append, ← HPN.out]; exact hown3); obtain ⟨g3, c3, he3, hc3, hl3, hgb3, -⟩ := own_at hown3b hp0; subst he3; have HV3 := Lib.hid hown3b; have HP3 := Lib.hid (HP1.out.below HK3.out); have hs3 := HK3.out.size; clear hown3 hown3b hg3 hat3)
        | (go_at_call 7; with_reducible refine (HLF.out b g3 c3 _ HP3.out (Rd.of_own HV3.out) hc3).mono ?_; rintro e w4 ⟨v40, v4, rfl, hv4, hb4⟩; obtain ⟨A4, c4, he4, _⟩ := own_form hv4; subst he4; have HX4 := Lib.hid hv4; have HV4 := Lib.hid (own_below HV3.out hb4); have HK4 := Lib.hid (HK3.out.trans (hb4.mono hs3)); have HP4 := Lib.hid (HP1.out.below HK4.out); have hs4 := HK4.out.size; have hs34 := hb4.size; clear hv4 hb4)
        | (go_at_call 7; with_reducible refine (HLB.out b _ HP4.out (below_self HB1.out HK4.out)).mono ?_; rintro e w5 ⟨v50, v5, rfl, hv5, hb5⟩; obtain ⟨A5, c5, he5, _⟩ := own_form hv5; subst he5; have HY5 := Lib.hid hv5; have HX5 := Lib.hid (own_below HX4.out hb5); have HV5 := Lib.hid (own_below HV4.out hb5); have HK5 := Lib.hid (HK4.out.trans (hb5.mono hs4)); have HP5 := Lib.hid (HP1.out.below HK5.out); have hs5 := HK5.out.size; have hs45 := hb5.size; clear hv5 hb5)
        | (go_at_call 6; with_reducible refine (HCF.out g3 c3 w5 (Rd.of_own HV5.out)).mono ?_; rintro e w6 ⟨v6, rfl, hv6, hb6⟩; have HV6 := Lib.hid hv6; have HX6 := Lib.hid (own_below HX5.out hb6); have HY6 := Lib.hid (own_below HY5.out hb6); have HK6 := Lib.hid (HK5.out.trans (hb6.mono hs5)); have hs6 := HK6.out.size; have hs56 := hb6.size; clear hv6 hb6)
        | (at_builtin; refine wpList_appR rfl _ _ _ rfl cloneInt_slice (by decide) v6 p _ rfl HV6.out B 0 k _ rfl (HRB.out w6 (below_self HB1.out HK6.out)) (oneInts _ _) (by omega) (by unfold maxLen; omega) hs56 ?_; intro v7 w7 hown7 hg7 hat7; have hs67 := hg7.size; have HK7 := Lib.hid (below_app HK6.out hg7 (own_base HV6.out hs5) hs6); have HX7 := Lib.hid (own_keep HX5.out HX6.out HV6.out (Nat.le_refl _) hg7); have HY7 := Lib.hid (own_keep HY5.out HY6.out HV6.out (Nat.le_refl _) hg7); have hown7b : w7.ownsRow w5.heap.size 3 1 v7 q ((F ++ bs).map (Value.int .i64)) := (by rw [List.map_append, ← HQN.out]; exact hown7); obtain ⟨g7, c7, he7, hc7, hl7, hgb7, -⟩ := own_at hown7b hq0; subst he7; have HV7 := Lib.hid hown7b; have HP7 := Lib.hid (HP1.out.below HK7.out); have hs7 := HK7.out.size; have hs37 := Nat.le_trans (Nat.le_trans hs34 hs45) (Nat.le_trans hs56 hs67); clear hown7 hown7b hg7 hat7)
        | (go_at_call 7; with_reducible refine (HLZ.out b g7 c7 _ HP7.out (Rd.of_own HV7.out) hc7).mono ?_; rintro e w8 ⟨v80, v8, rfl, hv8, hb8⟩; obtain ⟨A8, c8, he8, _⟩ := own_form hv8; subst he8; have HZ8 := Lib.hid hv8; have HX8 := Lib.hid (own_below HX7.out hb8); have HY8 := Lib.hid (own_below HY7.out hb8); have HK8 := Lib.hid (HK7.out.trans (hb8.mono hs7)); have hs8 := HK8.out.size; have hs78 := hb8.size; have hs38 := Nat.le_trans hs37 hs78; clear hv8 hb8)
        | (at_builtin; refine wpList_appG (by rfl) _ _ _ rfl cloneInt_slice (by decide) (.slice A4 p c4) p _ rfl HX8.out A5 0 c5 _ rfl (Rd.of_own HY8.out) (oneInts _ _) (by omega) (by unfold maxLen; omega) hs38 ?_; intro v9 w9 hown9 hg9 hat9; have HK9 := Lib.hid (below_app HK8.out hg9 (own_base HX8.out hs3) hs8); have HZ9 := Lib.hid (own_keepL HX7.out HZ8.out (Nat.le_refl _) hg9); have hown9b : w9.ownsRow w3.heap.size 3 1 v9 q ((X ++ Y).map (Value.int .i64)) := (by rw [List.map_append, ← HQN.out]; exact hown9); obtain ⟨A9, c9, he9, _⟩ := own_form hown9b; subst he9; have HV9 := Lib.hid hown9b; have hs9 := HK9.out.size; clear hown9 hown9b hg9 hat9)
        | (go_at_call 8; with_reducible refine (equalInt_b A8 A9 q q c8 c9 (X ++ Y) (X ++ Y) _ (Rd.of_own HZ9.out) (Rd.of_own HV9.out) (by unfold maxLen; omega) (by unfold maxLen; omega)).mono ?_; rintro e w10 ⟨rfl, hb10⟩; rw [decide_eq_true rfl]; have HK10 := Lib.hid (HK9.out.trans (hb10.mono hs9)); clear hb10)
        | (go_at_call 4; with_reducible refine (HAW.out _).mono ?_; rintro e w11 ⟨rfl, hb11⟩; have HB11 := Lib.hid (below_self (below_self HB1.out HK10.out) hb11); clear hb11)
        | fail)
      go_ret
      exact ⟨rfl, HB11.out⟩
  by_cases hm0 : 0 < m
  · obtain ⟨y, hy⟩ : ∃ y, bs[0]? = some y := ⟨_, List.getElem?_eq_getElem (by omega)⟩
    obtain ⟨bd, rfl, _, hcell⟩ := hs.at_ hm0
    have cb := hcell (.int .i64 y) (by rw [List.getElem?_map, hy]; rfl)
    rw [show bd.add 0 = bd from by first | rfl | exact addZero _] at cb
    by_cases hy10 : y = 10
    · have g3 : (y == 10) = true := by simp [hy10]
      have g4 : (0 : Int) < (m : Int) := by omega
      clear hr hs hy hcell main
      go_enter Tryz.func3, Tryz.ntmps3
      go_wp2_with (first
        | (go_at_call 4; refine (HAW.out _).mono ?_; rintro e w1 ⟨rfl, hb1⟩)
        | fail)
      go_ret
      exact ⟨rfl, hb1⟩
    · exact main (.inl ⟨hm0, bd, y, rfl, cb, by simp [hy10]⟩)
  · exact main (.inr (by omega))
end Go.Proofs.YtdgomaoikeffhaaGreat
