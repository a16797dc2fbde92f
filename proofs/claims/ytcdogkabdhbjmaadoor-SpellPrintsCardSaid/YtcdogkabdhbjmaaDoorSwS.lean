/- Options as words: the options of words. -/
import Derived.Test.YtcdogkabdhbjmaaDoorSwO
import Derived.Deep.LoopGhost
namespace Go.Proofs.YtcdogkabdhbjmaaDoor
open Go.RowKit

/-- Where the words are gone through: the fields, what is known, the result's cell. -/
def SaidAt (w0 : World) (B fb kb : Nat) (A : Option Addr) (ws : List ByteArray) (k : Nat) (o : Opt) (kn : List Bool) (wx : World) : Prop :=
  saidL (ws.drop k) o kn = saidF ws ∧ kn.length = 14 ∧ OptAt wx B Opt.zero ∧ CellsAt wx fb (o.fields.map (Value.int .i64)) ∧ CellsAt wx kb (kn.map Value.bool) ∧ TermsAt wx ∧ Rd wx 1 A ws.length (ws.map Value.string) ∧ Below B w0 wx
theorem opts_fields (d l t g : Int) (b0 b1 b2 b3 b4 b5 b6 b7 b8 b9 : Bool) : optOf d l t g (Opt.bi b0) (Opt.bi b1) (Opt.bi b2) (Opt.bi b3) (Opt.bi b4) (Opt.bi b5) (Opt.bi b6) (Opt.bi b7) (Opt.bi b8) (Opt.bi b9) = ⟨d, l, t, g, b0, b1, b2, b3, b4, b5, b6, b7, b8, b9⟩ := by
  unfold optOf
  rw [bi_eq, bi_eq, bi_eq, bi_eq, bi_eq, bi_eq, bi_eq, bi_eq, bi_eq, bi_eq]
/-- No word so far is this one. -/
def NoTerm (x : ByteArray) (j : Nat) : Prop := ∀ i t, i < j → termsL[i]? = some t → ¬ t.1 = x
theorem find_not {x : ByteArray} (h : NoTerm x 26) : findT x = none := by
  unfold findT
  rw [Option.map_eq_none_iff, List.find?_eq_none]
  intro t ht he
  obtain ⟨i, hi, rfl⟩ := List.getElem_of_mem ht
  exact h i _ (by rw [terms_len] at hi; exact hi) (List.getElem?_eq_getElem hi) (ba_beq he)
theorem find_first : ∀ (T : List (ByteArray × Nat × Int)) (x : ByteArray) (j : Nat) (t : ByteArray × Nat × Int), (∀ i u, i < j → T[i]? = some u → ¬ u.1 = x) → T[j]? = some t → t.1 = x → T.find? (fun u => u.1 == x) = some t
  | [], _, _, _, _, h, _ => by cases h
  | u :: T, x, 0, t, _, h, e => by
    obtain rfl := Option.some.inj h
    have : (u.1 == x) = true := by
      subst e
      obtain ⟨⟨y⟩, _⟩ := u
      show (y == y) = true
      simp
    rw [List.find?_cons, this]
  | u :: T, x, j + 1, t, hn, h, e => by
    have h0 := hn 0 u (by omega) rfl
    have : (u.1 == x) = false := by
      apply Bool.eq_false_iff.2
      intro hb
      exact h0 (ba_beq hb)
    rw [List.find?_cons, this]
    exact find_first T x j t (fun i v hi hv => hn (i + 1) v (by omega) hv) h e
theorem find_yes {x : ByteArray} {j : Nat} {t : ByteArray × Nat × Int} (hn : NoTerm x j) (h : termsL[j]? = some t) (e : t.1 = x) : findT x = some t.2 := by
  unfold findT
  rw [find_first termsL x j t (fun i u hi hu => hn i u hi hu) h e]
  rfl
theorem fields_len (o : Opt) : o.fields.length = 14 := rfl
set_option maxRecDepth 100000 in
set_option maxHeartbeats 1200000 in
theorem swSaid_any (A : Option Addr) (n c : Nat) (ws : List ByteArray) (hn : ws.length = n) (hn2 : n ≤ 100000) (R : Opt) (E : Int) (hR : saidF ws = (R, E)) (w : World) (hT : TermsAt w) (hrd : Rd w 1 A n (ws.map Value.string)) :
    Calls Tryd.prog 44 #[.slice A n c] w fun e w' => e = .returned (.tuple #[R.val, .int .i64 E]) ∧ Below w.heap.size w w' := by
  have HN := Lib.hid hn
  subst hn
  obtain ⟨W1, hW1⟩ : ∃ W1, w.alloc (.cells #[.int .i64 0, .int .i64 0, .int .i64 0, .int .i64 0, .bool false, .bool false, .bool false, .bool false, .bool false, .bool false, .bool false, .bool false, .bool false, .bool false] 23) = W1 := ⟨_, rfl⟩
  have hO1 : OptAt W1 w.heap.size Opt.zero := by rw [← hW1]; exact OptAt.new_ w Opt.zero 23
  have hb1 : Below w.heap.size w W1 := by rw [← hW1]; exact below_new _ _
  have hl1 := hO1.lt
  obtain ⟨W2, hW2⟩ : ∃ W2, W1.alloc (.cells #[.int .i64 0, .int .i64 0, .int .i64 0, .int .i64 0, .int .i64 0, .int .i64 0, .int .i64 0, .int .i64 0, .int .i64 0, .int .i64 0, .int .i64 0, .int .i64 0, .int .i64 0, .int .i64 0] 62) = W2 := ⟨_, rfl⟩
  have hF2 : CellsAt W2 W1.heap.size (Opt.zero.fields.map (Value.int .i64)) := by rw [← hW2]; exact CellsAt.new_ W1 _ _
  have hb2 : Below W1.heap.size W1 W2 := by rw [← hW2]; exact below_new _ _
  have hl2 : W1.heap.size < W2.heap.size := by rw [← hW2]; simp
  obtain ⟨W3, hW3⟩ : ∃ W3, W2.alloc (.cells #[.bool false, .bool false, .bool false, .bool false, .bool false, .bool false, .bool false, .bool false, .bool false, .bool false, .bool false, .bool false, .bool false, .bool false] 74) = W3 := ⟨_, rfl⟩
  have hK3 : CellsAt W3 W2.heap.size ((List.replicate 14 false).map Value.bool) := by rw [← hW3]; exact CellsAt.new_ W2 _ _
  have hb3 : Below W2.heap.size W2 W3 := by rw [← hW3]; exact below_new _ _
  have hl3 : W2.heap.size < W3.heap.size := by rw [← hW3]; simp
  have hI : SaidAt w w.heap.size W1.heap.size W2.heap.size A ws 0 Opt.zero (List.replicate 14 false) W3 :=
    ⟨rfl, rfl, (hO1.below hb2).below hb3, hF2.below hb3 hl2, hK3, ((hT.below hb1).below hb2).below hb3, ((hrd.below hb1).below hb2).below hb3, below_self (below_self hb1 hb2) hb3⟩
  have HI := Lib.hid hI
  have HR := Lib.hid hR
  have HRW := Lib.hid hrd
  have hgl : 0 < w.heap.size := cell_lt (hT 0 _ rfl)
  clear hO1 hb1 hF2 hb2 hK3 hb3 hI hR hT hrd
  go_enter Tryd.func44, Tryd.ntmps44
  go_wp2
  go_step3
  go_wp2
  go_step3
  go_wp2
  clear hW1 hW2 hW3
  generalize W1.heap.size = fb at *
  generalize W2.heap.size = kb at *
  generalize hB : w.heap.size = B at *
  have HB := Lib.hid hB
  have hx1 : ¬ fb = B := by omega
  have hx2 : ¬ kb = B := by omega
  have hx3 : ¬ fb = kb := by omega
  clear hB hl3
  go_loopg [12] ws.length (fun gh s12 wx => ∃ (k : Nat) (o : Opt) (kn : List Bool), k + gh = ws.length ∧ s12 = .int .i64 k ∧ SaidAt w B fb kb A ws k o kn wx)
  case atStart => exact ⟨0, _, _, by omega, rfl, HI.out⟩
  case round =>
    obtain ⟨k, o, kn, hkg, rfl, hS⟩ := hrel
    have HS := Lib.hid hS
    clear hS HI
    cases gk with
    | zero =>
      have hk0 : k = ws.length := by omega
      have hkz : ¬ ((k : Int) < (ws.length : Int)) := by omega
      obtain ⟨d, l, t, g, b0, b1, b2, b3, b4, b5, b6, b7, b8, b9⟩ := o
      have HX := Lib.hid (show R = ⟨d, l, t, g, b0, b1, b2, b3, b4, b5, b6, b7, b8, b9⟩ ∧ E = 0 by
        have h1 := HS.out.1
        rw [hk0, List.drop_length, saidL, HR.out] at h1
        injection h1 with e1 e2
        exact ⟨e1.symm, e2.symm⟩)
      have hF := HS.out.2.2.2.1
      have c0 : wr.cell? ⟨fb, 0, none⟩ = some (.int .i64 d) := hF.1 0 _ rfl
      have c1 : wr.cell? ⟨fb, 1, none⟩ = some (.int .i64 l) := hF.1 1 _ rfl
      have c2 : wr.cell? ⟨fb, 2, none⟩ = some (.int .i64 t) := hF.1 2 _ rfl
      have c3 : wr.cell? ⟨fb, 3, none⟩ = some (.int .i64 g) := hF.1 3 _ rfl
      have c4 : wr.cell? ⟨fb, 4, none⟩ = some (.int .i64 (Opt.bi b0)) := hF.1 4 _ rfl
      have c5 : wr.cell? ⟨fb, 5, none⟩ = some (.int .i64 (Opt.bi b1)) := hF.1 5 _ rfl
      have c6 : wr.cell? ⟨fb, 6, none⟩ = some (.int .i64 (Opt.bi b2)) := hF.1 6 _ rfl
      have c7 : wr.cell? ⟨fb, 7, none⟩ = some (.int .i64 (Opt.bi b3)) := hF.1 7 _ rfl
      have c8 : wr.cell? ⟨fb, 8, none⟩ = some (.int .i64 (Opt.bi b4)) := hF.1 8 _ rfl
      have c9 : wr.cell? ⟨fb, 9, none⟩ = some (.int .i64 (Opt.bi b5)) := hF.1 9 _ rfl
      have c10 : wr.cell? ⟨fb, 10, none⟩ = some (.int .i64 (Opt.bi b6)) := hF.1 10 _ rfl
      have c11 : wr.cell? ⟨fb, 11, none⟩ = some (.int .i64 (Opt.bi b7)) := hF.1 11 _ rfl
      have c12 : wr.cell? ⟨fb, 12, none⟩ = some (.int .i64 (Opt.bi b8)) := hF.1 12 _ rfl
      have c13 : wr.cell? ⟨fb, 13, none⟩ = some (.int .i64 (Opt.bi b9)) := hF.1 13 _ rfl
      have HFF := Lib.hid hF
      clear hF hk0
      go_wp2_with fail
      refine (swOptions_any d l t g (Opt.bi b0) (Opt.bi b1) (Opt.bi b2) (Opt.bi b3) (Opt.bi b4) (Opt.bi b5) (Opt.bi b6) (Opt.bi b7) (Opt.bi b8) (Opt.bi b9) _).mono ?_
      rintro e w5 ⟨rfl, hb5⟩
      have hO5 := HS.out.2.2.1.below hb5
      have hsz : B ≤ wr.heap.size := by rw [← HB.out]; exact HS.out.2.2.2.2.2.2.2.size
      have HB5 := Lib.hid (HS.out.2.2.2.2.2.2.2.trans (hb5.mono hsz))
      have HO5 := Lib.hid hO5
      rw [opts_fields]
      simp only [Opt.val, Opt.cells]
      have r0 : w5.cell? ⟨B, 0, none⟩ = some (.int .i64 0) := hO5.1 0 _ rfl
      have f0 := hO5.2 0
      have r1 : w5.cell? ⟨B, 1, none⟩ = some (.int .i64 0) := hO5.1 1 _ rfl
      have f1 := hO5.2 1
      have r2 : w5.cell? ⟨B, 2, none⟩ = some (.int .i64 0) := hO5.1 2 _ rfl
      have f2 := hO5.2 2
      have r3 : w5.cell? ⟨B, 3, none⟩ = some (.int .i64 0) := hO5.1 3 _ rfl
      have f3 := hO5.2 3
      have r4 : w5.cell? ⟨B, 4, none⟩ = some (.bool false) := hO5.1 4 _ rfl
      have f4 := hO5.2 4
      have r5 : w5.cell? ⟨B, 5, none⟩ = some (.bool false) := hO5.1 5 _ rfl
      have f5 := hO5.2 5
      have r6 : w5.cell? ⟨B, 6, none⟩ = some (.bool false) := hO5.1 6 _ rfl
      have f6 := hO5.2 6
      have r7 : w5.cell? ⟨B, 7, none⟩ = some (.bool false) := hO5.1 7 _ rfl
      have f7 := hO5.2 7
      have r8 : w5.cell? ⟨B, 8, none⟩ = some (.bool false) := hO5.1 8 _ rfl
      have f8 := hO5.2 8
      have r9 : w5.cell? ⟨B, 9, none⟩ = some (.bool false) := hO5.1 9 _ rfl
      have f9 := hO5.2 9
      have r10 : w5.cell? ⟨B, 10, none⟩ = some (.bool false) := hO5.1 10 _ rfl
      have f10 := hO5.2 10
      have r11 : w5.cell? ⟨B, 11, none⟩ = some (.bool false) := hO5.1 11 _ rfl
      have f11 := hO5.2 11
      have r12 : w5.cell? ⟨B, 12, none⟩ = some (.bool false) := hO5.1 12 _ rfl
      have f12 := hO5.2 12
      have r13 : w5.cell? ⟨B, 13, none⟩ = some (.bool false) := hO5.1 13 _ rfl
      have f13 := hO5.2 13
      clear hO5 hb5 c0 c1 c2 c3 c4 c5 c6 c7 c8 c9 c10 c11 c12 c13
      go_wp2_with fail
      (try rw [Exit.noGoto_ret])
      (try simp only [Exit.inBlock, Exit.then])
      refine bodyPost_ret (v := .tuple #[R.val, .int .i64 E]) ?_ rfl ⟨rfl, by rw [HB.out]; exact below_stored ⟨d, l, t, g, b0, b1, b2, b3, b4, b5, b6, b7, b8, b9⟩ (Nat.le_refl _) HB5.out⟩
      rw [HX.out.1, HX.out.2]
      exact res_opt rfl _ _ B ⟨d, l, t, g, b0, b1, b2, b3, b4, b5, b6, b7, b8, b9⟩ _ rfl rfl (HO5.out.stored ⟨d, l, t, g, b0, b1, b2, b3, b4, b5, b6, b7, b8, b9⟩)
    | succ gh =>
      have hkz : (k : Int) < (ws.length : Int) := by omega
      have hkn : k < ws.length := by omega
      obtain ⟨x, hx⟩ : ∃ x, ws[k]? = some x := ⟨_, List.getElem?_eq_getElem hkn⟩
      obtain ⟨ad, rfl, hab, hc⟩ := HS.out.2.2.2.2.2.2.1.at_ hkn
      have cx := hc (.string x) (by rw [List.getElem?_map, hx]; rfl)
      have HD := Lib.hid (show ws.drop k = x :: ws.drop (k + 1) by
        rw [List.getElem?_eq_getElem hkn] at hx
        injection hx with hx
        rw [List.drop_eq_getElem_cons hkn, hx])
      have HLT := Lib.hid (loadTerms HS.out.2.2.2.2.2.1)
      clear hx hc
      go_wp2_with ((with_reducible refine wpList_loadV rfl 66 _ rfl ⟨0, 0, none⟩ (.agg termsA) ?_ HLT.out ?_); rfl)
      go_loopg [17] 26 (fun g2 s17 wy => ∃ j : Nat, j + g2 = 26 ∧ s17 = .int .i64 j ∧ NoTerm x j ∧ SaidAt w B fb kb (some ad) ws k o kn wy)
      case atStart => exact ⟨0, by omega, rfl, (fun i t h => absurd h (by omega)), HS.out⟩
      case round =>
        obtain ⟨j, hjg, rfl, hnt, hS2⟩ := hrel
        have HNT := Lib.hid hnt
        have HS2 := Lib.hid hS2
        have hsz : B ≤ wr.heap.size := by rw [← HB.out]; exact hS2.2.2.2.2.2.2.2.size
        have hO := hS2.2.2.1
        have hlB := hO.lt
        have hlf : fb < wr.heap.size := cell_lt (hS2.2.2.2.1.1 0 _ (List.getElem?_eq_getElem (by rw [List.length_map, fields_len]; decide)))
        have hlk : kb < wr.heap.size := cell_lt (hS2.2.2.2.2.1.1 0 _ (List.getElem?_eq_getElem (by rw [List.length_map, hS2.2.1]; decide)))
        cases gk with
        | zero =>
          have hjz : ¬ ((j : Int) < 26) := by omega
          obtain rfl : j = 26 := by omega
          have HX := Lib.hid (show R = Opt.zero ∧ E = 11 by
            have h1 := HS2.out.1
            rw [HD.out, saidL, find_not HNT.out, HR.out] at h1
            injection h1 with e1 e2
            exact ⟨e1.symm, e2.symm⟩)
          have r0 : wr.cell? ⟨B, 0, none⟩ = some (.int .i64 0) := hO.1 0 _ rfl
          have f0 := hO.2 0
          have r1 : wr.cell? ⟨B, 1, none⟩ = some (.int .i64 0) := hO.1 1 _ rfl
          have f1 := hO.2 1
          have r2 : wr.cell? ⟨B, 2, none⟩ = some (.int .i64 0) := hO.1 2 _ rfl
          have f2 := hO.2 2
          have r3 : wr.cell? ⟨B, 3, none⟩ = some (.int .i64 0) := hO.1 3 _ rfl
          have f3 := hO.2 3
          have r4 : wr.cell? ⟨B, 4, none⟩ = some (.bool false) := hO.1 4 _ rfl
          have f4 := hO.2 4
          have r5 : wr.cell? ⟨B, 5, none⟩ = some (.bool false) := hO.1 5 _ rfl
          have f5 := hO.2 5
          have r6 : wr.cell? ⟨B, 6, none⟩ = some (.bool false) := hO.1 6 _ rfl
          have f6 := hO.2 6
          have r7 : wr.cell? ⟨B, 7, none⟩ = some (.bool false) := hO.1 7 _ rfl
          have f7 := hO.2 7
          have r8 : wr.cell? ⟨B, 8, none⟩ = some (.bool false) := hO.1 8 _ rfl
          have f8 := hO.2 8
          have r9 : wr.cell? ⟨B, 9, none⟩ = some (.bool false) := hO.1 9 _ rfl
          have f9 := hO.2 9
          have r10 : wr.cell? ⟨B, 10, none⟩ = some (.bool false) := hO.1 10 _ rfl
          have f10 := hO.2 10
          have r11 : wr.cell? ⟨B, 11, none⟩ = some (.bool false) := hO.1 11 _ rfl
          have f11 := hO.2 11
          have r12 : wr.cell? ⟨B, 12, none⟩ = some (.bool false) := hO.1 12 _ rfl
          have f12 := hO.2 12
          have r13 : wr.cell? ⟨B, 13, none⟩ = some (.bool false) := hO.1 13 _ rfl
          have f13 := hO.2 13
          clear hnt hS2 hO cx
          go_wp2_with fail
          (try rw [Exit.noGoto_ret])
          (try simp only [Exit.inBlock, Exit.then])
          refine bodyPost_ret (v := .tuple #[R.val, .int .i64 E]) ?_ rfl ⟨rfl, by rw [HB.out]; exact below_stored Opt.zero (Nat.le_refl _) HS2.out.2.2.2.2.2.2.2⟩
          rw [HX.out.1, HX.out.2]
          exact res_opt rfl _ _ B Opt.zero _ rfl rfl (HS2.out.2.2.1.stored Opt.zero)
        | succ g2 =>
          have hjz : (j : Int) < 26 := by omega
          obtain ⟨⟨wd, f, m⟩, ht⟩ : ∃ t, termsL[j]? = some t := ⟨_, List.getElem?_eq_getElem (by rw [terms_len]; omega)⟩
          obtain ⟨hf, hf1⟩ := terms_ok _ (List.mem_of_getElem? ht)
          simp only at hf hf1
          have hidx : ∀ w, (Instr.index 66 (.agg termsA) (.int .i64 (j : Int))).run Tryd.prog w = .ok (.agg #[.string wd, .int .i64 (f : Int), .int .i64 m]) w := fun w => idxTerms ht w
          have HF1 := Lib.hid hf1
          have HTM := Lib.hid ht
          clear hnt hS2 hf1 ht
          by_cases he : wd = x
          · subst he
            obtain ⟨W5, hW5⟩ : ∃ W5, wr.alloc (.cells #[.string wd, .int .i64 (f : Int), .int .i64 m] 65) = W5 := ⟨_, rfl⟩
            have hC5 : CellsAt W5 wr.heap.size [.string wd, .int .i64 (f : Int), .int .i64 m] := by rw [← hW5]; exact CellsAt.new_ wr _ _
            have hb5 : Below wr.heap.size wr W5 := by rw [← hW5]; exact below_new _ _
            have t0 : W5.cell? ⟨wr.heap.size, 0, none⟩ = some (.string wd) := hC5.1 0 _ rfl
            have t1 : W5.cell? ⟨wr.heap.size, 1, none⟩ = some (.int .i64 (f : Int)) := hC5.1 1 _ rfl
            have t2 : W5.cell? ⟨wr.heap.size, 2, none⟩ = some (.int .i64 m) := hC5.1 2 _ rfl
            have hO5 := hO.below hb5
            have HB5 := Lib.hid hb5
            have hF5 := HS2.out.2.2.2.1.below hb5 hlf
            have hK5 := HS2.out.2.2.2.2.1.below hb5 hlk
            have hne5 : wr.heap.size ≠ B := by omega
            have hne6 : ¬ wr.heap.size = fb := by omega
            have hne7 : ¬ wr.heap.size = kb := by omega
            have HF5 := Lib.hid hF5
            have HK5 := Lib.hid hK5
            have HO5 := Lib.hid hO5
            have HFY := Lib.hid (find_yes HNT.out HTM.out rfl)
            obtain ⟨y, hy⟩ : ∃ y, kn[f]? = some y := ⟨_, List.getElem?_eq_getElem (by rw [HS2.out.2.1]; exact hf)⟩
            have cy : W5.cell? ⟨kb, f, none⟩ = some (.bool y) := hK5.1 f _ (by rw [List.getElem?_map, hy]; rfl)
            have HY := Lib.hid hy
            clear hy
            cases y with
            | true =>
              have HX := Lib.hid (show R = Opt.zero ∧ E = 12 by
                have h1 := HS2.out.1
                rw [HD.out, saidL, HFY.out, HR.out] at h1
                simp only at h1
                rw [List.getD_eq_getElem?_getD, HY.out] at h1
                simp only [Option.getD_some, if_true] at h1
                injection h1 with e1 e2
                exact ⟨e1.symm, e2.symm⟩)
              have r0 : W5.cell? ⟨B, 0, none⟩ = some (.int .i64 0) := hO5.1 0 _ rfl
              have f0 := hO5.2 0
              have r1 : W5.cell? ⟨B, 1, none⟩ = some (.int .i64 0) := hO5.1 1 _ rfl
              have f1 := hO5.2 1
              have r2 : W5.cell? ⟨B, 2, none⟩ = some (.int .i64 0) := hO5.1 2 _ rfl
              have f2 := hO5.2 2
              have r3 : W5.cell? ⟨B, 3, none⟩ = some (.int .i64 0) := hO5.1 3 _ rfl
              have f3 := hO5.2 3
              have r4 : W5.cell? ⟨B, 4, none⟩ = some (.bool false) := hO5.1 4 _ rfl
              have f4 := hO5.2 4
              have r5 : W5.cell? ⟨B, 5, none⟩ = some (.bool false) := hO5.1 5 _ rfl
              have f5 := hO5.2 5
              have r6 : W5.cell? ⟨B, 6, none⟩ = some (.bool false) := hO5.1 6 _ rfl
              have f6 := hO5.2 6
              have r7 : W5.cell? ⟨B, 7, none⟩ = some (.bool false) := hO5.1 7 _ rfl
              have f7 := hO5.2 7
              have r8 : W5.cell? ⟨B, 8, none⟩ = some (.bool false) := hO5.1 8 _ rfl
              have f8 := hO5.2 8
              have r9 : W5.cell? ⟨B, 9, none⟩ = some (.bool false) := hO5.1 9 _ rfl
              have f9 := hO5.2 9
              have r10 : W5.cell? ⟨B, 10, none⟩ = some (.bool false) := hO5.1 10 _ rfl
              have f10 := hO5.2 10
              have r11 : W5.cell? ⟨B, 11, none⟩ = some (.bool false) := hO5.1 11 _ rfl
              have f11 := hO5.2 11
              have r12 : W5.cell? ⟨B, 12, none⟩ = some (.bool false) := hO5.1 12 _ rfl
              have f12 := hO5.2 12
              have r13 : W5.cell? ⟨B, 13, none⟩ = some (.bool false) := hO5.1 13 _ rfl
              have f13 := hO5.2 13
              clear hO hO5 hF5 hK5 hC5 hb5
              go_wp2_with fail
              (try rw [Exit.noGoto_ret])
              (try simp only [Exit.inBlock, Exit.then])
              refine bodyPost_ret (v := .tuple #[R.val, .int .i64 E]) ?_ rfl ⟨rfl, by rw [HB.out]; exact below_stored Opt.zero (Nat.le_refl _) (HS2.out.2.2.2.2.2.2.2.trans (HB5.out.mono hsz))⟩
              rw [HX.out.1, HX.out.2]
              exact res_opt rfl _ _ B Opt.zero _ rfl rfl (HO5.out.stored Opt.zero)
            | false =>
              obtain ⟨z, hz⟩ : ∃ z, o.fields[f]? = some z := ⟨_, List.getElem?_eq_getElem (by rw [fields_len]; exact hf)⟩
              have cz : W5.cell? ⟨fb, f, none⟩ = some (.int .i64 z) := hF5.1 f _ (by rw [List.getElem?_map, hz]; rfl)
              have fz := hF5.2 f
              have fy := hK5.2 f
              clear hz hO hO5 hF5 hK5 hC5 hb5
              have HW := Lib.hid (show SaidAt w B fb kb (some ad) ws (k + 1) (o.put f m) (kn.set f true) ((W5.setCell ⟨fb, f, none⟩ (.int .i64 m)).setCell ⟨kb, f, none⟩ (.bool true)).drew by
                have hbX : Below B wr ((W5.setCell ⟨fb, f, none⟩ (.int .i64 m)).setCell ⟨kb, f, none⟩ (.bool true)).drew := (below_setB (below_setB (HB5.out.mono hsz) (Nat.le_of_lt hl1) _ _) (Nat.le_of_lt (Nat.lt_trans hl1 hl2)) _ _).drew
                have hbY := HS2.out.2.2.2.2.2.2.2.trans hbX
                refine ⟨?_, ?_, ((HO5.out.far (fun e => hx1 e.symm) _ _).far (fun e => hx2 e.symm) _ _), ?_, ?_, HS2.out.2.2.2.2.2.1.upto hbX hgl, HRW.out.below (by rw [HB.out]; exact hbY), hbY⟩
                · have h1 := HS2.out.1
                  rw [HD.out, saidL, HFY.out] at h1
                  simp only at h1
                  rw [List.getD_eq_getElem?_getD, HY.out] at h1
                  simpa using h1
                · rw [List.length_set]
                  exact HS2.out.2.1
                · have h1 := (HF5.out.set f (.int .i64 m)).far hx3 f (.bool true)
                  rw [fields_put o f m hf HF1.out, List.map_set]
                  exact h1
                · have h1 := (HK5.out.far (fun e => hx3 e.symm) f (.int .i64 m)).set f (.bool true)
                  rw [List.map_set]
                  exact h1)
              go_wp2
              go_region
              go_wp2
              go_roundg gh
              case measure => omega
              case rel => exact ⟨k + 1, _, _, by omega, by go_num, HW.out⟩
          · have h1 : (wd.toList == x.toList) = false := ba_ne he
            have HNX := Lib.hid (show NoTerm x (j + 1) from fun i u hi hu => by
              by_cases hij : i = j
              · subst hij
                rw [HTM.out] at hu
                obtain rfl := Option.some.inj hu
                exact he
              · exact HNT.out i u (by omega) hu)
            clear he hO
            go_wp2
            go_roundg g2
            case measure => omega
            case rel => exact ⟨j + 1, by omega, by go_num, HNX.out, HS2.out.1, HS2.out.2.1, HS2.out.2.2.1.below (below_new _ _), HS2.out.2.2.2.1.below (below_new _ _) hlf, HS2.out.2.2.2.2.1.below (below_new _ _) hlk, HS2.out.2.2.2.2.2.1.below (below_new _ _), HS2.out.2.2.2.2.2.2.1.below (below_new _ _), HS2.out.2.2.2.2.2.2.2.trans ((below_new _ _).mono hsz)⟩
end Go.Proofs.YtcdogkabdhbjmaaDoor
