/- Options as words: the reference's Parse. -/
import Derived.Test.YtcdogkabdhbjmaaDoorSwS
import Derived.Test.YtcdogkabdhbjmaaDoorSwR2
import Derived.Test.YtcdogkabdhbjmaaDoorSwR3
import Derived.Test.YtcdogkabdhbjmaaDoorSwR4
import Derived.Test.YtcdogkabdhbjmaaDoorOpR3
import Derived.Deep.LoopGhost
namespace Go.Proofs.YtcdogkabdhbjmaaDoor
open Go.RowKit

theorem Rd.far {w : World} {A : Option Addr} {n : Nat} {xs : List Value} (h : Rd w 1 A n xs) {b : Nat} (hA : ∀ ad, A = some ad → ad.block ≠ b) (j : Nat) (u : Value) : Rd (w.setCell ⟨b, j, none⟩ u) 1 A n xs :=
  ⟨h.1, fun hn => by
    obtain ⟨ad, e, hb, hc⟩ := h.2 hn
    refine ⟨ad, e, by simpa [World.setCell] using hb, fun j' u' hu => (World.cell?_setCell_other (h := fun e2 => hA ad e ?_) ..).trans (hc j' u' hu)⟩
    have := congrArg Addr.block e2
    rw [blockAdd] at this
    exact this.symm⟩
theorem OptAt.farS {W : World} {b c : Nat} {o : Opt} (h : OptAt W c o) (hc : c ≠ b) (o' : Opt) : OptAt (Proofs.YtcdogkabdhbjmaaDoor.stored W b o') c o := by
  unfold Proofs.YtcdogkabdhbjmaaDoor.stored
  exact ((((((((((((((h.far hc _ _).far hc _ _).far hc _ _).far hc _ _).far hc _ _).far hc _ _).far hc _ _).far hc _ _).far hc _ _).far hc _ _).far hc _ _).far hc _ _).far hc _ _).far hc _ _)
theorem CellsAt.farS {W : World} {b c : Nat} {cs : List Value} (h : CellsAt W c cs) (hc : c ≠ b) (o' : Opt) : CellsAt (Proofs.YtcdogkabdhbjmaaDoor.stored W b o') c cs := by
  unfold Proofs.YtcdogkabdhbjmaaDoor.stored
  exact ((((((((((((((h.far hc _ _).far hc _ _).far hc _ _).far hc _ _).far hc _ _).far hc _ _).far hc _ _).far hc _ _).far hc _ _).far hc _ _).far hc _ _).far hc _ _).far hc _ _).far hc _ _)
theorem Rd.farS {W : World} {b : Nat} {A : Option Addr} {n : Nat} {xs : List Value} (h : Rd W 1 A n xs) (hA : ∀ ad, A = some ad → ad.block ≠ b) (o' : Opt) : Rd (Proofs.YtcdogkabdhbjmaaDoor.stored W b o') 1 A n xs := by
  unfold Proofs.YtcdogkabdhbjmaaDoor.stored
  exact ((((((((((((((h.far hA _ _).far hA _ _).far hA _ _).far hA _ _).far hA _ _).far hA _ _).far hA _ _).far hA _ _).far hA _ _).far hA _ _).far hA _ _).far hA _ _).far hA _ _).far hA _ _)
/-- Where the words are gone through. -/
def RPAt (B ob sb : Nat) (w0 : World) (A : Option Addr) (ws : List ByteArray) (k : Nat) (o : Opt) (kn : List Bool) (wx : World) : Prop :=
  saidL (ws.drop k) o kn = saidF ws ∧ kn.length = 14 ∧ OptAt wx B Opt.zero ∧ OptAt wx ob o ∧ CellsAt wx sb (kn.map Value.bool) ∧ Rd wx 1 A ws.length (ws.map Value.string) ∧ Below B w0 wx
theorem terms_num : (termsL.all fun t => decide (0 ≤ (if t.2.1 = 0 then t.2.2 + 1 else t.2.2) ∧ (if t.2.1 = 0 then t.2.2 + 1 else t.2.2) ≤ 4)) = true := by decide +kernel
theorem find_num {x : ByteArray} {f : Nat} {m : Int} (h : findT x = some (f, m)) : f < 14 ∧ 0 ≤ (if f = 0 then m + 1 else m) ∧ (if f = 0 then m + 1 else m) ≤ 4 := by
  refine ⟨(findT_ok h).1, ?_⟩
  unfold findT at h
  cases hf : termsL.find? fun t => t.1 == x with
  | none => rw [hf] at h; cases h
  | some t =>
    rw [hf] at h
    injection h with h
    have h2 := of_decide_eq_true (List.all_eq_true.1 terms_num t (List.mem_of_find?_eq_some hf))
    have h3 : t.2 = (f, m) := h
    rw [h3] at h2
    exact h2
set_option maxRecDepth 100000 in
set_option maxHeartbeats 4000000 in
theorem refParse_any (s : ByteArray) (hs9 : s.size ≤ 100000) (R : Opt) (E : Int) (hR : parseF s = (R, E)) (w : World) :
    Calls Tryd.prog 27 #[.string s] w fun e w' => e = .returned (.tuple #[R.val, .int .i64 E]) ∧ Below w.heap.size w w' := by
  obtain ⟨W1, hW1⟩ : ∃ W1, w.alloc (.cells #[.int .i64 0, .int .i64 0, .int .i64 0, .int .i64 0, .bool false, .bool false, .bool false, .bool false, .bool false, .bool false, .bool false, .bool false, .bool false, .bool false] 23) = W1 := ⟨_, rfl⟩
  have hO1 : OptAt W1 w.heap.size Opt.zero := by rw [← hW1]; exact OptAt.new_ w Opt.zero 23
  have hb1 : Below w.heap.size w W1 := by rw [← hW1]; exact below_new _ _
  have hl1 := hO1.lt
  obtain ⟨W2, hW2⟩ : ∃ W2, W1.alloc (.cells #[.int .i64 0, .int .i64 0, .int .i64 0, .int .i64 0, .bool false, .bool false, .bool false, .bool false, .bool false, .bool false, .bool false, .bool false, .bool false, .bool false] 23) = W2 := ⟨_, rfl⟩
  have hP2 : OptAt W2 W1.heap.size Opt.zero := by rw [← hW2]; exact OptAt.new_ W1 Opt.zero 23
  have hb2 : Below W1.heap.size W1 W2 := by rw [← hW2]; exact below_new _ _
  have hl2 := hP2.lt
  have HO2 := Lib.hid (hO1.below hb2)
  have HP2 := Lib.hid hP2
  have HB2 := Lib.hid (below_self hb1 hb2)
  have HR := Lib.hid hR
  clear hR hO1 hb1 hP2 hb2
  by_cases hs : 1000 < s.size
  · have HX := Lib.hid (show R = Opt.zero ∧ E = 6 by
      have := HR.out
      unfold parseF at this
      rw [if_pos hs] at this
      injection this with e1 e2
      exact ⟨e1.symm, e2.symm⟩)
    have r0 : W2.cell? ⟨w.heap.size, 0, none⟩ = some (.int .i64 0) := HO2.out.1 0 _ rfl
    have f0 := HO2.out.2 0
    have r1 : W2.cell? ⟨w.heap.size, 1, none⟩ = some (.int .i64 0) := HO2.out.1 1 _ rfl
    have f1 := HO2.out.2 1
    have r2 : W2.cell? ⟨w.heap.size, 2, none⟩ = some (.int .i64 0) := HO2.out.1 2 _ rfl
    have f2 := HO2.out.2 2
    have r3 : W2.cell? ⟨w.heap.size, 3, none⟩ = some (.int .i64 0) := HO2.out.1 3 _ rfl
    have f3 := HO2.out.2 3
    have r4 : W2.cell? ⟨w.heap.size, 4, none⟩ = some (.bool false) := HO2.out.1 4 _ rfl
    have f4 := HO2.out.2 4
    have r5 : W2.cell? ⟨w.heap.size, 5, none⟩ = some (.bool false) := HO2.out.1 5 _ rfl
    have f5 := HO2.out.2 5
    have r6 : W2.cell? ⟨w.heap.size, 6, none⟩ = some (.bool false) := HO2.out.1 6 _ rfl
    have f6 := HO2.out.2 6
    have r7 : W2.cell? ⟨w.heap.size, 7, none⟩ = some (.bool false) := HO2.out.1 7 _ rfl
    have f7 := HO2.out.2 7
    have r8 : W2.cell? ⟨w.heap.size, 8, none⟩ = some (.bool false) := HO2.out.1 8 _ rfl
    have f8 := HO2.out.2 8
    have r9 : W2.cell? ⟨w.heap.size, 9, none⟩ = some (.bool false) := HO2.out.1 9 _ rfl
    have f9 := HO2.out.2 9
    have r10 : W2.cell? ⟨w.heap.size, 10, none⟩ = some (.bool false) := HO2.out.1 10 _ rfl
    have f10 := HO2.out.2 10
    have r11 : W2.cell? ⟨w.heap.size, 11, none⟩ = some (.bool false) := HO2.out.1 11 _ rfl
    have f11 := HO2.out.2 11
    have r12 : W2.cell? ⟨w.heap.size, 12, none⟩ = some (.bool false) := HO2.out.1 12 _ rfl
    have f12 := HO2.out.2 12
    have r13 : W2.cell? ⟨w.heap.size, 13, none⟩ = some (.bool false) := HO2.out.1 13 _ rfl
    have f13 := HO2.out.2 13
    have p0 : W2.cell? ⟨W1.heap.size, 0, none⟩ = some (.int .i64 0) := HP2.out.1 0 _ rfl
    have p1 : W2.cell? ⟨W1.heap.size, 1, none⟩ = some (.int .i64 0) := HP2.out.1 1 _ rfl
    have p2 : W2.cell? ⟨W1.heap.size, 2, none⟩ = some (.int .i64 0) := HP2.out.1 2 _ rfl
    have p3 : W2.cell? ⟨W1.heap.size, 3, none⟩ = some (.int .i64 0) := HP2.out.1 3 _ rfl
    have p4 : W2.cell? ⟨W1.heap.size, 4, none⟩ = some (.bool false) := HP2.out.1 4 _ rfl
    have p5 : W2.cell? ⟨W1.heap.size, 5, none⟩ = some (.bool false) := HP2.out.1 5 _ rfl
    have p6 : W2.cell? ⟨W1.heap.size, 6, none⟩ = some (.bool false) := HP2.out.1 6 _ rfl
    have p7 : W2.cell? ⟨W1.heap.size, 7, none⟩ = some (.bool false) := HP2.out.1 7 _ rfl
    have p8 : W2.cell? ⟨W1.heap.size, 8, none⟩ = some (.bool false) := HP2.out.1 8 _ rfl
    have p9 : W2.cell? ⟨W1.heap.size, 9, none⟩ = some (.bool false) := HP2.out.1 9 _ rfl
    have p10 : W2.cell? ⟨W1.heap.size, 10, none⟩ = some (.bool false) := HP2.out.1 10 _ rfl
    have p11 : W2.cell? ⟨W1.heap.size, 11, none⟩ = some (.bool false) := HP2.out.1 11 _ rfl
    have p12 : W2.cell? ⟨W1.heap.size, 12, none⟩ = some (.bool false) := HP2.out.1 12 _ rfl
    have p13 : W2.cell? ⟨W1.heap.size, 13, none⟩ = some (.bool false) := HP2.out.1 13 _ rfl
    have hs2 : (1000 : Int) < (s.size : Int) := by omega
    clear hs
    go_enter Tryd.func27, Tryd.ntmps27
    go_wp2_with fail
    (try simp only [Exit.inBlock, Exit.then])
    refine bodyPost_ret (v := .tuple #[R.val, .int .i64 E]) ?_ rfl ⟨rfl, below_stored Opt.zero (Nat.le_refl _) HB2.out⟩
    rw [HX.out.1, HX.out.2]
    exact res_opt rfl _ _ w.heap.size Opt.zero _ rfl rfl (HO2.out.stored Opt.zero)
  · obtain ⟨R1, E1, h1⟩ : ∃ R1 E1, saidF (wordsF s) = (R1, E1) := ⟨_, _, rfl⟩
    have HX := Lib.hid (show (R, E) = (if E1 = 0 then (if R1.err = 0 then (R1, 0) else (Opt.zero, R1.err)) else (Opt.zero, E1)) by
      have := HR.out
      unfold parseF at this
      rw [if_neg hs, h1] at this
      exact this.symm)
    have HS := Lib.hid h1
    have hlen := words_len s
    obtain ⟨ws, hws⟩ : ∃ ws, wordsF s = ws := ⟨_, rfl⟩
    have HWS := Lib.hid hws
    have hn9 : ws.length ≤ 1001 := by rw [← hws]; omega
    rw [hws] at HS
    have hs2 : ¬ (1000 : Int) < (s.size : Int) := by omega
    clear hs h1 hlen HR hws
    go_enter Tryd.func27, Tryd.ntmps27
    go_wp2_with fail
    refine (refSplit_any s hs9 _).mono ?_
    rintro e w3 ⟨A, c, rfl, hr3, hA3, hb3⟩
    rw [HWS.out] at hr3
    simp only [HWS.out]
    have hl3 : W2.heap.size ≤ w3.heap.size := hb3.size
    have HA := Lib.hid (show ∀ ad, A = some ad → ad.block ≠ w.heap.size ∧ ad.block ≠ W1.heap.size from fun ad e => by have := hA3 ad e; omega)
    have hO3 := HO2.out.below hb3
    have hP3 := HP2.out.below hb3
    have hB3 := below_self HB2.out hb3
    obtain ⟨w4, hW4⟩ : ∃ w4, w3.alloc (.cells #[.bool false, .bool false, .bool false, .bool false, .bool false, .bool false, .bool false, .bool false, .bool false, .bool false, .bool false, .bool false, .bool false, .bool false] 74) = w4 := ⟨_, rfl⟩
    have hK4 : CellsAt w4 w3.heap.size ((List.replicate 14 false).map Value.bool) := by rw [← hW4]; exact CellsAt.new_ w3 _ _
    have hb4 : Below w3.heap.size w3 w4 := by rw [← hW4]; exact below_new _ _
    have HI := Lib.hid (show RPAt w.heap.size W1.heap.size w3.heap.size w A ws 0 Opt.zero (List.replicate 14 false) w4 from
      ⟨rfl, rfl, hO3.below hb4, hP3.below hb4, hK4, hr3.below hb4, below_self hB3 hb4⟩)
    have HA4 := Lib.hid (show ∀ ad, A = some ad → ad.block < w3.heap.size ∨ ws.length = 0 from fun ad e => by
      rcases Nat.eq_zero_or_pos ws.length with h | h
      · exact .inr h
      · obtain ⟨ad', e', hb', _⟩ := hr3.2 h
        rw [e] at e'
        obtain rfl := Option.some.inj e'
        exact .inl hb')
    clear hr3 hA3 hb3 hO3 hP3 hB3 hK4 hb4 hs2 hW1 hW2 HO2 HP2 HB2
    go_wp2
    clear hW4
    generalize hob : W1.heap.size = ob at *
    generalize hsb : w3.heap.size = sb at *
    generalize hB : w.heap.size = B at *
    have HB := Lib.hid hB
    have hx1 : ob ≠ B := by omega
    have hx2 : sb ≠ B := by omega
    have hx3 : sb ≠ ob := by omega
    have HL := Lib.hid (show B ≤ ob ∧ B ≤ sb by omega)
    clear hB hob hsb hl1 hl2 hl3
    go_loopg [7] ws.length (fun gh s7 wx => ∃ (k : Nat) (o : Opt) (kn : List Bool), k + gh = ws.length ∧ s7 = .int .i64 k ∧ RPAt B ob sb w A ws k o kn wx)
    case atStart => exact ⟨0, _, _, by omega, rfl, HI.out⟩
    case round =>
      obtain ⟨k, o, kn, hkg, rfl, hS⟩ := hrel
      have HS2 := Lib.hid hS
      clear hS HI
      cases gk with
      | zero =>
        have hk0 : k = ws.length := by omega
        have hkz : ¬ ((k : Int) < (ws.length : Int)) := by omega
        obtain ⟨d, l, t, g, b0, b1, b2, b3, b4, b5, b6, b7, b8, b9⟩ := o
        obtain ⟨X, hX⟩ : ∃ X, Opt.err ⟨d, l, t, g, b0, b1, b2, b3, b4, b5, b6, b7, b8, b9⟩ = X := ⟨_, rfl⟩
        have HXX := Lib.hid (show (R, E) = (if X = 0 then (⟨d, l, t, g, b0, b1, b2, b3, b4, b5, b6, b7, b8, b9⟩, 0) else (Opt.zero, X)) by
          have h1 := HS2.out.1
          rw [hk0, List.drop_length, saidL, HS.out] at h1
          injection h1 with e1 e2
          have := HX.out
          rw [← e1, ← e2, if_pos rfl, hX] at this
          exact this)
        have HE := Lib.hid hX
        have hP := HS2.out.2.2.2.1
        have hsz : B ≤ wr.heap.size := by rw [← HB.out]; exact HS2.out.2.2.2.2.2.2.size
        have c0 : wr.cell? ⟨ob, 0, none⟩ = some (.int .i64 d) := hP.1 0 _ rfl
        have c1 : wr.cell? ⟨ob, 1, none⟩ = some (.int .i64 l) := hP.1 1 _ rfl
        have c2 : wr.cell? ⟨ob, 2, none⟩ = some (.int .i64 t) := hP.1 2 _ rfl
        have c3 : wr.cell? ⟨ob, 3, none⟩ = some (.int .i64 g) := hP.1 3 _ rfl
        have c4 : wr.cell? ⟨ob, 4, none⟩ = some (.bool b0) := hP.1 4 _ rfl
        have c5 : wr.cell? ⟨ob, 5, none⟩ = some (.bool b1) := hP.1 5 _ rfl
        have c6 : wr.cell? ⟨ob, 6, none⟩ = some (.bool b2) := hP.1 6 _ rfl
        have c7 : wr.cell? ⟨ob, 7, none⟩ = some (.bool b3) := hP.1 7 _ rfl
        have c8 : wr.cell? ⟨ob, 8, none⟩ = some (.bool b4) := hP.1 8 _ rfl
        have c9 : wr.cell? ⟨ob, 9, none⟩ = some (.bool b5) := hP.1 9 _ rfl
        have c10 : wr.cell? ⟨ob, 10, none⟩ = some (.bool b6) := hP.1 10 _ rfl
        have c11 : wr.cell? ⟨ob, 11, none⟩ = some (.bool b7) := hP.1 11 _ rfl
        have c12 : wr.cell? ⟨ob, 12, none⟩ = some (.bool b8) := hP.1 12 _ rfl
        have c13 : wr.cell? ⟨ob, 13, none⟩ = some (.bool b9) := hP.1 13 _ rfl
        clear hX hP hk0
        go_wp2_with fail
        refine (refCheckO_any d l t g b0 b1 b2 b3 b4 b5 b6 b7 b8 b9 X HE.out _).mono ?_
        rintro e w5 ⟨rfl, hb5⟩
        have hP5 := HS2.out.2.2.2.1.below hb5
        have hO5 := HS2.out.2.2.1.below hb5
        have HO5 := Lib.hid hO5
        have HB5 := Lib.hid (HS2.out.2.2.2.2.2.2.trans (hb5.mono hsz))
        clear hb5 c0 c1 c2 c3 c4 c5 c6 c7 c8 c9 c10 c11 c12 c13
        have r0 : w5.cell? ⟨B, 0, none⟩ = some (.int .i64 0) := hO5.1 0 _ rfl
        have r1 : w5.cell? ⟨B, 1, none⟩ = some (.int .i64 0) := hO5.1 1 _ rfl
        have r2 : w5.cell? ⟨B, 2, none⟩ = some (.int .i64 0) := hO5.1 2 _ rfl
        have r3 : w5.cell? ⟨B, 3, none⟩ = some (.int .i64 0) := hO5.1 3 _ rfl
        have r4 : w5.cell? ⟨B, 4, none⟩ = some (.bool false) := hO5.1 4 _ rfl
        have r5 : w5.cell? ⟨B, 5, none⟩ = some (.bool false) := hO5.1 5 _ rfl
        have r6 : w5.cell? ⟨B, 6, none⟩ = some (.bool false) := hO5.1 6 _ rfl
        have r7 : w5.cell? ⟨B, 7, none⟩ = some (.bool false) := hO5.1 7 _ rfl
        have r8 : w5.cell? ⟨B, 8, none⟩ = some (.bool false) := hO5.1 8 _ rfl
        have r9 : w5.cell? ⟨B, 9, none⟩ = some (.bool false) := hO5.1 9 _ rfl
        have r10 : w5.cell? ⟨B, 10, none⟩ = some (.bool false) := hO5.1 10 _ rfl
        have r11 : w5.cell? ⟨B, 11, none⟩ = some (.bool false) := hO5.1 11 _ rfl
        have r12 : w5.cell? ⟨B, 12, none⟩ = some (.bool false) := hO5.1 12 _ rfl
        have r13 : w5.cell? ⟨B, 13, none⟩ = some (.bool false) := hO5.1 13 _ rfl
        have f0 := hO5.2 0
        have f1 := hO5.2 1
        have f2 := hO5.2 2
        have f3 := hO5.2 3
        have f4 := hO5.2 4
        have f5 := hO5.2 5
        have f6 := hO5.2 6
        have f7 := hO5.2 7
        have f8 := hO5.2 8
        have f9 := hO5.2 9
        have f10 := hO5.2 10
        have f11 := hO5.2 11
        have f12 := hO5.2 12
        have f13 := hO5.2 13
        by_cases hX0 : X = 0
        · subst hX0
          have HY := Lib.hid (show R = ⟨d, l, t, g, b0, b1, b2, b3, b4, b5, b6, b7, b8, b9⟩ ∧ E = 0 by
            have := HXX.out
            rw [if_pos rfl] at this
            injection this with e1 e2
            exact ⟨e1, e2⟩)
          have c0 : w5.cell? ⟨ob, 0, none⟩ = some (.int .i64 d) := hP5.1 0 _ rfl
          have c1 : w5.cell? ⟨ob, 1, none⟩ = some (.int .i64 l) := hP5.1 1 _ rfl
          have c2 : w5.cell? ⟨ob, 2, none⟩ = some (.int .i64 t) := hP5.1 2 _ rfl
          have c3 : w5.cell? ⟨ob, 3, none⟩ = some (.int .i64 g) := hP5.1 3 _ rfl
          have c4 : w5.cell? ⟨ob, 4, none⟩ = some (.bool b0) := hP5.1 4 _ rfl
          have c5 : w5.cell? ⟨ob, 5, none⟩ = some (.bool b1) := hP5.1 5 _ rfl
          have c6 : w5.cell? ⟨ob, 6, none⟩ = some (.bool b2) := hP5.1 6 _ rfl
          have c7 : w5.cell? ⟨ob, 7, none⟩ = some (.bool b3) := hP5.1 7 _ rfl
          have c8 : w5.cell? ⟨ob, 8, none⟩ = some (.bool b4) := hP5.1 8 _ rfl
          have c9 : w5.cell? ⟨ob, 9, none⟩ = some (.bool b5) := hP5.1 9 _ rfl
          have c10 : w5.cell? ⟨ob, 10, none⟩ = some (.bool b6) := hP5.1 10 _ rfl
          have c11 : w5.cell? ⟨ob, 11, none⟩ = some (.bool b7) := hP5.1 11 _ rfl
          have c12 : w5.cell? ⟨ob, 12, none⟩ = some (.bool b8) := hP5.1 12 _ rfl
          have c13 : w5.cell? ⟨ob, 13, none⟩ = some (.bool b9) := hP5.1 13 _ rfl
          clear hP5 hO5
          go_wp2_with fail
          (try simp only [Exit.inBlock, Exit.then])
          refine bodyPost_ret (v := .tuple #[R.val, .int .i64 E]) ?_ rfl ⟨rfl, by rw [HB.out]; exact below_stored ⟨d, l, t, g, b0, b1, b2, b3, b4, b5, b6, b7, b8, b9⟩ (Nat.le_refl _) HB5.out⟩
          rw [HY.out.1, HY.out.2]
          exact res_opt rfl _ _ B ⟨d, l, t, g, b0, b1, b2, b3, b4, b5, b6, b7, b8, b9⟩ _ rfl rfl (HO5.out.stored ⟨d, l, t, g, b0, b1, b2, b3, b4, b5, b6, b7, b8, b9⟩)
        · have HY := Lib.hid (show R = Opt.zero ∧ E = X by
            have := HXX.out
            rw [if_neg hX0] at this
            injection this with e1 e2
            exact ⟨e1, e2⟩)
          have g1 : (X != 0) = true := by simp [hX0]
          clear hX0 hP5 hO5
          go_wp2_with fail
          (try simp only [Exit.inBlock, Exit.then])
          refine bodyPost_ret (v := .tuple #[R.val, .int .i64 E]) ?_ rfl ⟨rfl, by rw [HB.out]; exact below_stored Opt.zero (Nat.le_refl _) HB5.out⟩
          rw [HY.out.1, HY.out.2]
          exact res_opt rfl _ _ B Opt.zero _ rfl rfl (HO5.out.stored Opt.zero)
      | succ gh =>
        have hkz : (k : Int) < (ws.length : Int) := by omega
        have hkn : k < ws.length := by omega
        obtain ⟨x, hx⟩ : ∃ x, ws[k]? = some x := ⟨_, List.getElem?_eq_getElem hkn⟩
        obtain ⟨ad, rfl, hab, hc⟩ := HS2.out.2.2.2.2.2.1.at_ hkn
        have cx := hc (.string x) (by rw [List.getElem?_map, hx]; rfl)
        have HD := Lib.hid (show ws.drop k = x :: ws.drop (k + 1) by
          rw [List.getElem?_eq_getElem hkn] at hx
          injection hx with hx
          rw [List.drop_eq_getElem_cons hkn, hx])
        have hsz : B ≤ wr.heap.size := by rw [← HB.out]; exact HS2.out.2.2.2.2.2.2.size
        obtain ⟨a, b, hfr⟩ : ∃ a b, findR x = (a, b) := ⟨_, _, rfl⟩
        have HFR := Lib.hid hfr
        clear hx hc hfr
        go_wp2_with fail
        refine (refFind_any x a b HFR.out _).mono ?_
        rintro e w5 ⟨rfl, hb5⟩
        have hO5 := HS2.out.2.2.1.below hb5
        have hP5 := HS2.out.2.2.2.1.below hb5
        have hK5 := HS2.out.2.2.2.2.1.below hb5 (cell_lt (HS2.out.2.2.2.2.1.1 0 _ (List.getElem?_eq_getElem (by rw [List.length_map, HS2.out.2.1]; decide))))
        have HRD5 := Lib.hid (HS2.out.2.2.2.2.2.1.below hb5)
        have hB5 := HS2.out.2.2.2.2.2.2.trans (hb5.mono hsz)
        have hsz5 : B ≤ w5.heap.size := by rw [← HB.out]; exact hB5.size
        have HB5 := Lib.hid hB5
        have HO5 := Lib.hid hO5
        have HP5 := Lib.hid hP5
        have HK5 := Lib.hid hK5
        clear hb5 cx hB5
        cases hft : findT x with
        | none =>
          have HAB := Lib.hid (show a = -1 ∧ b = 0 by
            have := HFR.out
            unfold findR at this
            rw [hft] at this
            injection this with e1 e2
            exact ⟨e1.symm, e2.symm⟩)
          have HY := Lib.hid (show R = Opt.zero ∧ E = 11 by
            have h1 := HS2.out.1
            rw [HD.out, saidL, hft, HS.out] at h1
            simp only at h1
            injection h1 with e1 e2
            have := HX.out
            rw [← e1, ← e2, if_neg (by decide)] at this
            injection this with e3 e4
            exact ⟨e3, e4⟩)
          obtain rfl := HAB.out.1
          have r0 : w5.cell? ⟨B, 0, none⟩ = some (.int .i64 0) := hO5.1 0 _ rfl
          have r1 : w5.cell? ⟨B, 1, none⟩ = some (.int .i64 0) := hO5.1 1 _ rfl
          have r2 : w5.cell? ⟨B, 2, none⟩ = some (.int .i64 0) := hO5.1 2 _ rfl
          have r3 : w5.cell? ⟨B, 3, none⟩ = some (.int .i64 0) := hO5.1 3 _ rfl
          have r4 : w5.cell? ⟨B, 4, none⟩ = some (.bool false) := hO5.1 4 _ rfl
          have r5 : w5.cell? ⟨B, 5, none⟩ = some (.bool false) := hO5.1 5 _ rfl
          have r6 : w5.cell? ⟨B, 6, none⟩ = some (.bool false) := hO5.1 6 _ rfl
          have r7 : w5.cell? ⟨B, 7, none⟩ = some (.bool false) := hO5.1 7 _ rfl
          have r8 : w5.cell? ⟨B, 8, none⟩ = some (.bool false) := hO5.1 8 _ rfl
          have r9 : w5.cell? ⟨B, 9, none⟩ = some (.bool false) := hO5.1 9 _ rfl
          have r10 : w5.cell? ⟨B, 10, none⟩ = some (.bool false) := hO5.1 10 _ rfl
          have r11 : w5.cell? ⟨B, 11, none⟩ = some (.bool false) := hO5.1 11 _ rfl
          have r12 : w5.cell? ⟨B, 12, none⟩ = some (.bool false) := hO5.1 12 _ rfl
          have r13 : w5.cell? ⟨B, 13, none⟩ = some (.bool false) := hO5.1 13 _ rfl
          have f0 := hO5.2 0
          have f1 := hO5.2 1
          have f2 := hO5.2 2
          have f3 := hO5.2 3
          have f4 := hO5.2 4
          have f5 := hO5.2 5
          have f6 := hO5.2 6
          have f7 := hO5.2 7
          have f8 := hO5.2 8
          have f9 := hO5.2 9
          have f10 := hO5.2 10
          have f11 := hO5.2 11
          have f12 := hO5.2 12
          have f13 := hO5.2 13
          clear hft hO5 hP5 hK5
          go_wp2_with fail
          (try simp only [Exit.inBlock, Exit.then])
          refine bodyPost_ret (v := .tuple #[R.val, .int .i64 E]) ?_ rfl ⟨rfl, by rw [HB.out]; exact below_stored Opt.zero (Nat.le_refl _) HB5.out⟩
          rw [HY.out.1, HY.out.2]
          exact res_opt rfl _ _ B Opt.zero _ rfl rfl (HO5.out.stored Opt.zero)
        | some fm =>
          obtain ⟨f, m⟩ := fm
          obtain ⟨hf, hn0, hn1⟩ := find_num hft
          obtain ⟨q, hq⟩ : ∃ q, (if f = 0 then m + 1 else m) = q := ⟨_, rfl⟩
          rw [hq] at hn0 hn1
          have HAB := Lib.hid (show a = (f : Int) ∧ b = q by
            have := HFR.out
            unfold findR at this
            rw [hft] at this
            injection this with e1 e2
            exact ⟨e1.symm, e2.symm.trans hq⟩)
          have HQ := Lib.hid (show (if f = 0 then q - 1 else q) = m by
            rw [← hq]
            split <;> omega)
          obtain ⟨y, hy⟩ : ∃ y, kn[f]? = some y := ⟨_, List.getElem?_eq_getElem (by rw [HS2.out.2.1]; exact hf)⟩
          have cy : w5.cell? ⟨sb, f, none⟩ = some (.bool y) := hK5.1 f _ (by rw [List.getElem?_map, hy]; rfl)
          have HYY := Lib.hid hy
          have HFT := Lib.hid hft
          obtain ⟨rfl, rfl⟩ := HAB.out
          clear hft hy hq HAB
          cases y with
          | true =>
            have HY := Lib.hid (show R = Opt.zero ∧ E = 12 by
              have h1 := HS2.out.1
              rw [HD.out, saidL, HFT.out, HS.out] at h1
              simp only at h1
              rw [List.getD_eq_getElem?_getD, HYY.out] at h1
              simp only [Option.getD_some, if_true] at h1
              injection h1 with e1 e2
              have := HX.out
              rw [← e1, ← e2, if_neg (by decide)] at this
              injection this with e3 e4
              exact ⟨e3, e4⟩)
            have r0 : w5.cell? ⟨B, 0, none⟩ = some (.int .i64 0) := hO5.1 0 _ rfl
            have r1 : w5.cell? ⟨B, 1, none⟩ = some (.int .i64 0) := hO5.1 1 _ rfl
            have r2 : w5.cell? ⟨B, 2, none⟩ = some (.int .i64 0) := hO5.1 2 _ rfl
            have r3 : w5.cell? ⟨B, 3, none⟩ = some (.int .i64 0) := hO5.1 3 _ rfl
            have r4 : w5.cell? ⟨B, 4, none⟩ = some (.bool false) := hO5.1 4 _ rfl
            have r5 : w5.cell? ⟨B, 5, none⟩ = some (.bool false) := hO5.1 5 _ rfl
            have r6 : w5.cell? ⟨B, 6, none⟩ = some (.bool false) := hO5.1 6 _ rfl
            have r7 : w5.cell? ⟨B, 7, none⟩ = some (.bool false) := hO5.1 7 _ rfl
            have r8 : w5.cell? ⟨B, 8, none⟩ = some (.bool false) := hO5.1 8 _ rfl
            have r9 : w5.cell? ⟨B, 9, none⟩ = some (.bool false) := hO5.1 9 _ rfl
            have r10 : w5.cell? ⟨B, 10, none⟩ = some (.bool false) := hO5.1 10 _ rfl
            have r11 : w5.cell? ⟨B, 11, none⟩ = some (.bool false) := hO5.1 11 _ rfl
            have r12 : w5.cell? ⟨B, 12, none⟩ = some (.bool false) := hO5.1 12 _ rfl
            have r13 : w5.cell? ⟨B, 13, none⟩ = some (.bool false) := hO5.1 13 _ rfl
            have f0 := hO5.2 0
            have f1 := hO5.2 1
            have f2 := hO5.2 2
            have f3 := hO5.2 3
            have f4 := hO5.2 4
            have f5 := hO5.2 5
            have f6 := hO5.2 6
            have f7 := hO5.2 7
            have f8 := hO5.2 8
            have f9 := hO5.2 9
            have f10 := hO5.2 10
            have f11 := hO5.2 11
            have f12 := hO5.2 12
            have f13 := hO5.2 13
            clear hO5 hP5 hK5
            go_wp2_with fail
            (try simp only [Exit.inBlock, Exit.then])
            refine bodyPost_ret (v := .tuple #[R.val, .int .i64 E]) ?_ rfl ⟨rfl, by rw [HB.out]; exact below_stored Opt.zero (Nat.le_refl _) HB5.out⟩
            rw [HY.out.1, HY.out.2]
            exact res_opt rfl _ _ B Opt.zero _ rfl rfl (HO5.out.stored Opt.zero)
          | false =>
            have fy := hK5.2 f
            have hK6 := hK5.set f (.bool true)
            have hP6 := hP5.far (fun e => hx3 e.symm) f (.bool true)
            have hO6 := hO5.far (fun e => hx2 e.symm) f (.bool true)
            obtain ⟨d, l, t, g, b0, b1, b2, b3, b4, b5, b6, b7, b8, b9⟩ := o
            have c0 : w5.cell? ⟨ob, 0, none⟩ = some (.int .i64 d) := hP5.1 0 _ rfl
            have c1 : w5.cell? ⟨ob, 1, none⟩ = some (.int .i64 l) := hP5.1 1 _ rfl
            have c2 : w5.cell? ⟨ob, 2, none⟩ = some (.int .i64 t) := hP5.1 2 _ rfl
            have c3 : w5.cell? ⟨ob, 3, none⟩ = some (.int .i64 g) := hP5.1 3 _ rfl
            have c4 : w5.cell? ⟨ob, 4, none⟩ = some (.bool b0) := hP5.1 4 _ rfl
            have c5 : w5.cell? ⟨ob, 5, none⟩ = some (.bool b1) := hP5.1 5 _ rfl
            have c6 : w5.cell? ⟨ob, 6, none⟩ = some (.bool b2) := hP5.1 6 _ rfl
            have c7 : w5.cell? ⟨ob, 7, none⟩ = some (.bool b3) := hP5.1 7 _ rfl
            have c8 : w5.cell? ⟨ob, 8, none⟩ = some (.bool b4) := hP5.1 8 _ rfl
            have c9 : w5.cell? ⟨ob, 9, none⟩ = some (.bool b5) := hP5.1 9 _ rfl
            have c10 : w5.cell? ⟨ob, 10, none⟩ = some (.bool b6) := hP5.1 10 _ rfl
            have c11 : w5.cell? ⟨ob, 11, none⟩ = some (.bool b7) := hP5.1 11 _ rfl
            have c12 : w5.cell? ⟨ob, 12, none⟩ = some (.bool b8) := hP5.1 12 _ rfl
            have c13 : w5.cell? ⟨ob, 13, none⟩ = some (.bool b9) := hP5.1 13 _ rfl
            clear hO5 hP5 hK5
            go_wp2_with fail
            have hAs : ∀ ad', some ad = some ad' → ad'.block ≠ sb := fun ad' e => by
              rcases HA4.out ad' e with h | h <;> omega
            have hRD6 := HRD5.out.far hAs f (.bool true)
            have hB6 := below_setB HB5.out HL.out.2 f (.bool true)
            generalize w5.setCell ⟨sb, f, none⟩ (.bool true) = W6 at *
            have hsz6 : B ≤ W6.heap.size := by rw [← HB.out]; exact hB6.size
            obtain ⟨ov, hov⟩ : ∃ ov, Opt.put ⟨d, l, t, g, b0, b1, b2, b3, b4, b5, b6, b7, b8, b9⟩ f m = ov := ⟨_, rfl⟩
            have HOV := Lib.hid hov
            refine (setAt_any d l t g b0 b1 b2 b3 b4 b5 b6 b7 b8 b9 f hf b ⟨hn0, hn1⟩ ov (by rw [HQ.out]; exact hov) W6).mono ?_
            rintro e w7 ⟨rfl, hb7⟩
            have hlk6 : sb < W6.heap.size := cell_lt (hK6.1 0 _ (List.getElem?_eq_getElem (by rw [List.length_set, List.length_map, HS2.out.2.1]; decide)))
            have hP7 := hP6.below hb7
            have HP7 := Lib.hid hP7
            have HO7 := Lib.hid (hO6.below hb7)
            have HK7 := Lib.hid (hK6.below hb7 hlk6)
            have HRD7 := Lib.hid (hRD6.below hb7)
            have HB7 := Lib.hid (hB6.trans (hb7.mono hsz6))
            obtain ⟨v0, v1, v2, v3, v4, v5, v6, v7, v8, v9, v10, v11, v12, v13⟩ := ov
            have HW := Lib.hid (show RPAt B ob sb w (some ad) ws (k + 1) ⟨v0, v1, v2, v3, v4, v5, v6, v7, v8, v9, v10, v11, v12, v13⟩ (kn.set f true) (stored w7 ob ⟨v0, v1, v2, v3, v4, v5, v6, v7, v8, v9, v10, v11, v12, v13⟩) from by
              refine ⟨?_, ?_, HO7.out.farS (fun e => hx1 e.symm) _, HP7.out.stored ⟨v0, v1, v2, v3, v4, v5, v6, v7, v8, v9, v10, v11, v12, v13⟩, ?_, HRD7.out.farS (fun ad' e => (HA.out ad' e).2) _, below_stored ⟨v0, v1, v2, v3, v4, v5, v6, v7, v8, v9, v10, v11, v12, v13⟩ HL.out.1 HB7.out⟩
              · have h1 := HS2.out.1
                rw [HD.out, saidL, HFT.out] at h1
                simp only at h1
                rw [List.getD_eq_getElem?_getD, HYY.out, HOV.out] at h1
                simpa using h1
              · rw [List.length_set]
                exact HS2.out.2.1
              · rw [List.map_set]
                exact HK7.out.farS hx3 _)
            simp only [Opt.val, Opt.cells]
            have c0 : w7.cell? ⟨ob, 0, none⟩ = some (.int .i64 d) := hP7.1 0 _ rfl
            have c1 : w7.cell? ⟨ob, 1, none⟩ = some (.int .i64 l) := hP7.1 1 _ rfl
            have c2 : w7.cell? ⟨ob, 2, none⟩ = some (.int .i64 t) := hP7.1 2 _ rfl
            have c3 : w7.cell? ⟨ob, 3, none⟩ = some (.int .i64 g) := hP7.1 3 _ rfl
            have c4 : w7.cell? ⟨ob, 4, none⟩ = some (.bool b0) := hP7.1 4 _ rfl
            have c5 : w7.cell? ⟨ob, 5, none⟩ = some (.bool b1) := hP7.1 5 _ rfl
            have c6 : w7.cell? ⟨ob, 6, none⟩ = some (.bool b2) := hP7.1 6 _ rfl
            have c7 : w7.cell? ⟨ob, 7, none⟩ = some (.bool b3) := hP7.1 7 _ rfl
            have c8 : w7.cell? ⟨ob, 8, none⟩ = some (.bool b4) := hP7.1 8 _ rfl
            have c9 : w7.cell? ⟨ob, 9, none⟩ = some (.bool b5) := hP7.1 9 _ rfl
            have c10 : w7.cell? ⟨ob, 10, none⟩ = some (.bool b6) := hP7.1 10 _ rfl
            have c11 : w7.cell? ⟨ob, 11, none⟩ = some (.bool b7) := hP7.1 11 _ rfl
            have c12 : w7.cell? ⟨ob, 12, none⟩ = some (.bool b8) := hP7.1 12 _ rfl
            have c13 : w7.cell? ⟨ob, 13, none⟩ = some (.bool b9) := hP7.1 13 _ rfl
            have f0 := hP7.2 0
            have f1 := hP7.2 1
            have f2 := hP7.2 2
            have f3 := hP7.2 3
            have f4 := hP7.2 4
            have f5 := hP7.2 5
            have f6 := hP7.2 6
            have f7 := hP7.2 7
            have f8 := hP7.2 8
            have f9 := hP7.2 9
            have f10 := hP7.2 10
            have f11 := hP7.2 11
            have f12 := hP7.2 12
            have f13 := hP7.2 13
            clear hP7 hP6 hK6 hO6 hRD6 hB6 hb7 hov hAs  cy fy
            go_wp2_with fail
            go_roundg gh
            case measure => omega
            case rel => exact ⟨k + 1, ⟨v0, v1, v2, v3, v4, v5, v6, v7, v8, v9, v10, v11, v12, v13⟩, kn.set f true, by omega, by go_num, HW.out⟩
end Go.Proofs.YtcdogkabdhbjmaaDoor
