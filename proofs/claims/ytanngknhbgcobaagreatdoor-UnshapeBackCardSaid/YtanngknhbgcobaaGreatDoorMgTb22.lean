/- Texts of one claim, one behind the other. -/
import Derived.Deep.DeepCutAuto
import Derived.Test.YtanngknhbgcobaaGreatDoorMgTb1
import Derived.Test.YtanngknhbgcobaaGreatDoorMgTb6
/- Options that go together, made of any: naskhplain.Right. -/
namespace Go.Proofs.YtanngknhbgcobaaGreatDoor
open Go.RowKit

/-- Where the options and the result's cell stand. -/
def RInv (B r : Nat) (w : World) (o : Opt) (wx : World) : Prop := OptAt wx B o ∧ OptAt wx r Opt.zero ∧ Below B w wx
theorem res_opt1 {fn : Func} {p : Tmp} (hf : fn.results = #[.cell p 24]) (tmps : Array Value) (w : World) (g : Nat) (o : Opt) (hp : tmps.getD p undef = .pointer (some ⟨g, 0, none⟩))
    (hO : OptAt w g o) : (results fn tmps).run Tryz.prog w = .ok o.val w := by
  have hc := hO.1
  have c0 := hc 0 _ rfl
  have c1 := hc 1 _ rfl
  have c2 := hc 2 _ rfl
  have c3 := hc 3 _ rfl
  have c4 := hc 4 _ rfl
  have c5 := hc 5 _ rfl
  have c6 := hc 6 _ rfl
  have c7 := hc 7 _ rfl
  have c8 := hc 8 _ rfl
  have c9 := hc 9 _ rfl
  have c10 := hc 10 _ rfl
  have c11 := hc 11 _ rfl
  have c12 := hc 12 _ rfl
  have c13 := hc 13 _ rfl
  have hp' : tmps[p]?.getD undef = .pointer (some ⟨g, 0, none⟩) := by simpa using hp
  obtain ⟨d, l, t, g, b0, b1, b2, b3, b4, b5, b6, b7, b8, b9⟩ := o
  simp only [Opt.val, Opt.cells] at *
  simp only [results, hf]
  clear hc hp hf hO
  go_simp
theorem arr45 (t : Array Value) (h : t.size = 45) : ∃ u0 u1 u2 u3 u4 u5 u6 u7 u8 u9 u10 u11 u12 u13 u14 u15 u16 u17 u18 u19 u20 u21 u22 u23 u24 u25 u26 u27 u28 u29 u30 u31 u32 u33 u34 u35 u36 u37 u38 u39 u40 u41 u42 u43 u44, t = #[u0, u1, u2, u3, u4, u5, u6, u7, u8, u9, u10, u11, u12, u13, u14, u15, u16, u17, u18, u19, u20, u21, u22, u23, u24, u25, u26, u27, u28, u29, u30, u31, u32, u33, u34, u35, u36, u37, u38, u39, u40, u41, u42, u43, u44] := by
  obtain ⟨l⟩ := t
  simp only [List.size_toArray] at h
  rcases l with _ | ⟨u0, l⟩
  · simp at h
  rcases l with _ | ⟨u1, l⟩
  · simp at h
  rcases l with _ | ⟨u2, l⟩
  · simp at h
  rcases l with _ | ⟨u3, l⟩
  · simp at h
  rcases l with _ | ⟨u4, l⟩
  · simp at h
  rcases l with _ | ⟨u5, l⟩
  · simp at h
  rcases l with _ | ⟨u6, l⟩
  · simp at h
  rcases l with _ | ⟨u7, l⟩
  · simp at h
  rcases l with _ | ⟨u8, l⟩
  · simp at h
  rcases l with _ | ⟨u9, l⟩
  · simp at h
  rcases l with _ | ⟨u10, l⟩
  · simp at h
  rcases l with _ | ⟨u11, l⟩
  · simp at h
  rcases l with _ | ⟨u12, l⟩
  · simp at h
  rcases l with _ | ⟨u13, l⟩
  · simp at h
  rcases l with _ | ⟨u14, l⟩
  · simp at h
  rcases l with _ | ⟨u15, l⟩
  · simp at h
  rcases l with _ | ⟨u16, l⟩
  · simp at h
  rcases l with _ | ⟨u17, l⟩
  · simp at h
  rcases l with _ | ⟨u18, l⟩
  · simp at h
  rcases l with _ | ⟨u19, l⟩
  · simp at h
  rcases l with _ | ⟨u20, l⟩
  · simp at h
  rcases l with _ | ⟨u21, l⟩
  · simp at h
  rcases l with _ | ⟨u22, l⟩
  · simp at h
  rcases l with _ | ⟨u23, l⟩
  · simp at h
  rcases l with _ | ⟨u24, l⟩
  · simp at h
  rcases l with _ | ⟨u25, l⟩
  · simp at h
  rcases l with _ | ⟨u26, l⟩
  · simp at h
  rcases l with _ | ⟨u27, l⟩
  · simp at h
  rcases l with _ | ⟨u28, l⟩
  · simp at h
  rcases l with _ | ⟨u29, l⟩
  · simp at h
  rcases l with _ | ⟨u30, l⟩
  · simp at h
  rcases l with _ | ⟨u31, l⟩
  · simp at h
  rcases l with _ | ⟨u32, l⟩
  · simp at h
  rcases l with _ | ⟨u33, l⟩
  · simp at h
  rcases l with _ | ⟨u34, l⟩
  · simp at h
  rcases l with _ | ⟨u35, l⟩
  · simp at h
  rcases l with _ | ⟨u36, l⟩
  · simp at h
  rcases l with _ | ⟨u37, l⟩
  · simp at h
  rcases l with _ | ⟨u38, l⟩
  · simp at h
  rcases l with _ | ⟨u39, l⟩
  · simp at h
  rcases l with _ | ⟨u40, l⟩
  · simp at h
  rcases l with _ | ⟨u41, l⟩
  · simp at h
  rcases l with _ | ⟨u42, l⟩
  · simp at h
  rcases l with _ | ⟨u43, l⟩
  · simp at h
  rcases l with _ | ⟨u44, l⟩
  · simp at h
  have : l = [] := by
    rw [← List.length_eq_zero_iff]
    simp only [List.length_cons] at h
    omega
  subst this
  exact ⟨_, _, _, _, _, _, _, _, _, _, _, _, _, _, _, _, _, _, _, _, _, _, _, _, _, _, _, _, _, _, _, _, _, _, _, _, _, _, _, _, _, _, _, _, _, rfl⟩
set_option maxRecDepth 100000 in
set_option maxHeartbeats 8000000 in
theorem right_any (d l t g : Int) (b0 b1 b2 b3 b4 b5 b6 b7 b8 b9 : Bool) (R : Opt) (hR : rightF ⟨d, l, t, g, b0, b1, b2, b3, b4, b5, b6, b7, b8, b9⟩ = R) (w : World) :
    Calls Tryz.prog 48 #[.agg #[.int .i64 d, .int .i64 l, .int .i64 t, .int .i64 g, .bool b0, .bool b1, .bool b2, .bool b3, .bool b4, .bool b5, .bool b6, .bool b7, .bool b8, .bool b9]] w fun e w' => e = .returned R.val ∧ Below w.heap.size w w' := by
  have HR := Lib.hid hR
  clear hR
  obtain ⟨W1, hW1⟩ : ∃ W1, w.alloc (.cells #[.int .i64 d, .int .i64 l, .int .i64 t, .int .i64 g, .bool b0, .bool b1, .bool b2, .bool b3, .bool b4, .bool b5, .bool b6, .bool b7, .bool b8, .bool b9] 24) = W1 := ⟨_, rfl⟩
  have hO1 : OptAt W1 w.heap.size ⟨d, l, t, g, b0, b1, b2, b3, b4, b5, b6, b7, b8, b9⟩ := by rw [← hW1]; exact OptAt.new_ w ⟨d, l, t, g, b0, b1, b2, b3, b4, b5, b6, b7, b8, b9⟩ 24
  have hb1 : Below w.heap.size w W1 := by rw [← hW1]; exact below_new _ _
  obtain ⟨W2, hW2⟩ : ∃ W2, W1.alloc (.cells #[.int .i64 0, .int .i64 0, .int .i64 0, .int .i64 0, .bool false, .bool false, .bool false, .bool false, .bool false, .bool false, .bool false, .bool false, .bool false, .bool false] 24) = W2 := ⟨_, rfl⟩
  have hR2 : OptAt W2 W1.heap.size Opt.zero := by rw [← hW2]; exact OptAt.new_ W1 Opt.zero 24
  have hb2 : Below W1.heap.size W1 W2 := by rw [← hW2]; exact below_new _ _
  have hO2 := hO1.below hb2
  have hl1 := hO1.lt
  have HB2 := Lib.hid (below_self hb1 hb2)
  have HO2 := Lib.hid hO2
  have HR2 := Lib.hid hR2
  clear hO1 hb1 hb2 hO2 hR2
  go_enter Tryz.func48, Tryz.ntmps48
  go_wp2_with fail
  refine right_region (p := ⟨w.heap.size, ⟨d, l, t, g, b0, b1, b2, b3, b4, b5, b6, b7, b8, b9⟩⟩) (w0 := W2) (by rfl) (by kernel_rfl) (by kernel_rfl) (by kernel_rfl) ?hH ?_
  case hH => exact ⟨rfl, rfl, rfl, ⟨W1.heap.size, rfl, (by show W1.heap.size ≠ w.heap.size; omega), ⟨fun j u hu => HR2.out.1 j u hu, HR2.out.2⟩, (by show w.heap.size ≤ W1.heap.size; omega)⟩, ⟨d, l, t, g, ⟨fun j u hu => HO2.out.1 j u hu, HO2.out.2⟩, rfl, rfl, rfl, rfl⟩, fun B ww hB hb => hb.drew⟩
  intro a' w' hA hO
  obtain ⟨tm, df⟩ := a'
  have hdf := hA.defers
  have hsz := hA.size
  obtain ⟨r, hs2, hne, hRO, hBr⟩ := hA.s2
  have hs1 := hA.s1
  have hbf := hA.below w.heap.size w (Nat.le_refl _) HB2.out
  simp only at hdf hsz hs1 hs2 hO hne hBr
  subst hdf
  obtain ⟨u0, u1, u2, u3, u4, u5, u6, u7, u8, u9, u10, u11, u12, u13, u14, u15, u16, u17, u18, u19, u20, u21, u22, u23, u24, u25, u26, u27, u28, u29, u30, u31, u32, u33, u34, u35, u36, u37, u38, u39, u40, u41, u42, u43, u44, rfl⟩ := arr45 tm hsz
  obtain rfl := Option.some.inj hs1
  obtain rfl := Option.some.inj hs2
  have hR3 : cut4 (cut3 (cut2 (cut1 (heldO ⟨d, l, t, g, b0, b1, b2, b3, b4, b5, b6, b7, b8, b9⟩)))) = R := HR.out
  unfold heldO at hR3 hO
  simp only at hR3 hO
  generalize heldF d 3 = d' at *
  generalize heldF l 4 = l' at *
  generalize heldF t 4 = t' at *
  generalize heldF g 4 = g' at *
  have HBF := Lib.hid hbf
  have HR3 := Lib.hid hR3
  have HRO := Lib.hid hRO
  have HO := Lib.hid hO
  clear hR3 hA hsz hs1 hs2 HR HB2 HO2 HR2 hbf hW1 hW2 hl1
  generalize hB : w.heap.size = B at *
  have HB := Lib.hid hB
  clear hB
  clear hO hRO
  have HI := Lib.hid (show RInv B r w ⟨d', l', t', g', b0, b1, b2, b3, b4, b5, b6, b7, b8, b9⟩ w' from ⟨HO.out, HRO.out, HBF.out⟩)
  clear HO HRO HBF
  have c1 : w'.cell? ⟨B, 1, none⟩ = some (.int .i64 l') := HI.out.1.1 1 _ rfl
  have f1 := HI.out.1.2 1
  have c2 : w'.cell? ⟨B, 2, none⟩ = some (.int .i64 t') := HI.out.1.1 2 _ rfl
  have f2 := HI.out.1.2 2
  have c5 : w'.cell? ⟨B, 5, none⟩ = some (.bool b1) := HI.out.1.1 5 _ rfl
  have f5 := HI.out.1.2 5
  have c7 : w'.cell? ⟨B, 7, none⟩ = some (.bool b3) := HI.out.1.1 7 _ rfl
  have f7 := HI.out.1.2 7
  have c8 : w'.cell? ⟨B, 8, none⟩ = some (.bool b4) := HI.out.1.1 8 _ rfl
  have f8 := HI.out.1.2 8
  have c9 : w'.cell? ⟨B, 9, none⟩ = some (.bool b5) := HI.out.1.1 9 _ rfl
  have f9 := HI.out.1.2 9
  go_upto_if 21 with fail
  go_cut [] (fun wx => RInv B r w (cut1 ⟨d', l', t', g', b0, b1, b2, b3, b4, b5, b6, b7, b8, b9⟩) wx)
  case first =>
    cases b1 with
    | false =>
      go_wp2_with fail
      go_meet
      exact ⟨((((HI.out.1.set1 0).set2 0).setF3 false).setF4 false).setF5 false, (((((HI.out.2.1.far hne _ _).far hne _ _).far hne _ _).far hne _ _).far hne _ _), (below_setB (below_setB (below_setB (below_setB (below_setB HI.out.2.2 (Nat.le_refl _) _ _) (Nat.le_refl _) _ _) (Nat.le_refl _) _ _) (Nat.le_refl _) _ _) (Nat.le_refl _) _ _)⟩
    | true =>
      go_wp2_with fail
      go_meet
      exact HI.out
  case rest =>
    clear c1 f1 c2 f2 c5 f5 c7 f7 c8 f8 c9 f9
    clear HI
    obtain ⟨o1, ho1⟩ : ∃ o1, cut1 ⟨d', l', t', g', b0, b1, b2, b3, b4, b5, b6, b7, b8, b9⟩ = o1 := ⟨_, rfl⟩
    rw [ho1] at hcut
    have hR3 := HR3.out
    rw [ho1] at hR3
    clear HR3 ho1
    obtain ⟨d1, l1, t1, g1, p0, p1, p2, p3, p4, p5, p6, p7, p8, p9⟩ := o1
    have HR3 := Lib.hid hR3
    have HI := Lib.hid hcut
    clear hR3 hcut
    have c1 : wc.cell? ⟨B, 1, none⟩ = some (.int .i64 l1) := HI.out.1.1 1 _ rfl
    have f1 := HI.out.1.2 1
    have c6 : wc.cell? ⟨B, 6, none⟩ = some (.bool p2) := HI.out.1.1 6 _ rfl
    have f6 := HI.out.1.2 6
    go_upto_if 29 with fail
    go_cut [] (fun wx => RInv B r w (cut2 ⟨d1, l1, t1, g1, p0, p1, p2, p3, p4, p5, p6, p7, p8, p9⟩) wx)
    case first =>
      by_cases hl : l1 = 0
      · subst hl
        go_wp2_with fail
        go_meet
        exact ⟨HI.out.1.setF2 false, (HI.out.2.1.far hne _ _), (below_setB HI.out.2.2 (Nat.le_refl _) _ _)⟩
      · have gl : (l1 == 0) = false := by simp [hl]
        have e : cut2 ⟨d1, l1, t1, g1, p0, p1, p2, p3, p4, p5, p6, p7, p8, p9⟩ = ⟨d1, l1, t1, g1, p0, p1, p2, p3, p4, p5, p6, p7, p8, p9⟩ := if_neg hl
        have E := Lib.hid e
        clear hl e
        go_wp2_with fail
        go_meet
        rw [E.out]
        exact HI.out
    case rest =>
      clear c1 f1 c6 f6
      clear HI
      rename_i wcO
      obtain ⟨o2, ho2⟩ : ∃ o2, cut2 ⟨d1, l1, t1, g1, p0, p1, p2, p3, p4, p5, p6, p7, p8, p9⟩ = o2 := ⟨_, rfl⟩
      rw [ho2] at hcut
      have hR3 := HR3.out
      rw [ho2] at hR3
      clear HR3 ho2
      obtain ⟨d2, l2, t2, g2, q0, q1, q2, q3, q4, q5, q6, q7, q8, q9⟩ := o2
      have HR3 := Lib.hid hR3
      have HI := Lib.hid hcut
      clear hR3 hcut
      have c2 : wc.cell? ⟨B, 2, none⟩ = some (.int .i64 t2) := HI.out.1.1 2 _ rfl
      have f2 := HI.out.1.2 2
      have c7 : wc.cell? ⟨B, 7, none⟩ = some (.bool q3) := HI.out.1.1 7 _ rfl
      have f7 := HI.out.1.2 7
      go_upto_region 6 with fail
      go_cut [38] (fun s38 wx => s38 = .bool ((t2 == 3) || (t2 == 4)) ∧ wx = wc)
      case first =>
        by_cases h3 : t2 = 3
        · subst h3
          go_wp2_with fail
          go_meet
          exact ⟨rfl, rfl⟩
        · have e3 : (t2 == 3) = false := by simp [h3]
          clear h3
          go_wp2_with fail
          go_meet
          exact ⟨by rw [e3]; rfl, rfl⟩
      case rest =>
        obtain ⟨rfl, hwx⟩ := hcut
        obtain rfl := hwx.symm
        clear hwx
        obtain ⟨y, hy⟩ : ∃ y, ((t2 == 3) || (t2 == 4)) = y := ⟨_, rfl⟩
        rw [hy]
        have E := Lib.hid (show cut3 ⟨d2, l2, t2, g2, q0, q1, q2, q3, q4, q5, q6, q7, q8, q9⟩ = if y = true then { (⟨d2, l2, t2, g2, q0, q1, q2, q3, q4, q5, q6, q7, q8, q9⟩ : Opt) with b3 := false } else ⟨d2, l2, t2, g2, q0, q1, q2, q3, q4, q5, q6, q7, q8, q9⟩ by
          unfold cut3
          rw [← hy]
          simp)
        clear hy
        go_upto_if 38 with fail
        go_cut [] (fun wx => RInv B r w (cut3 ⟨d2, l2, t2, g2, q0, q1, q2, q3, q4, q5, q6, q7, q8, q9⟩) wx)
        case first =>
          cases y with
          | true =>
            go_wp2_with fail
            go_meet
            rw [E.out]
            exact ⟨HI.out.1.setF3 false, (HI.out.2.1.far hne _ _), (below_setB HI.out.2.2 (Nat.le_refl _) _ _)⟩
          | false =>
            go_wp2_with fail
            go_meet
            rw [E.out]
            exact HI.out
        case rest =>
          clear c2 f2 c7 f7
          clear HI
          obtain ⟨o3, ho3⟩ : ∃ o3, cut3 ⟨d2, l2, t2, g2, q0, q1, q2, q3, q4, q5, q6, q7, q8, q9⟩ = o3 := ⟨_, rfl⟩
          rw [ho3] at hcut
          have hR3 := HR3.out
          rw [ho3] at hR3
          clear HR3 ho3
          obtain ⟨d3, l3, t3, g3, v0, v1, v2, v3, v4, v5, v6, v7, v8, v9⟩ := o3
          have HR3 := Lib.hid hR3
          have HI := Lib.hid hcut
          clear hR3 hcut
          have c10 : wc.cell? ⟨B, 10, none⟩ = some (.bool v6) := HI.out.1.1 10 _ rfl
          have f10 := HI.out.1.2 10
          have c11 : wc.cell? ⟨B, 11, none⟩ = some (.bool v7) := HI.out.1.1 11 _ rfl
          have f11 := HI.out.1.2 11
          go_upto_if 42 with fail
          go_cut [] (fun wx => RInv B r w (cut4 ⟨d3, l3, t3, g3, v0, v1, v2, v3, v4, v5, v6, v7, v8, v9⟩) wx)
          case first =>
            cases v6 with
            | false =>
              go_wp2_with fail
              go_meet
              exact ⟨HI.out.1.setF7 false, (HI.out.2.1.far hne _ _), (below_setB HI.out.2.2 (Nat.le_refl _) _ _)⟩
            | true =>
              go_wp2_with fail
              go_meet
              exact HI.out
          case rest =>
            clear c10 f10 c11 f11
            clear HI
            rw [HR3.out] at hcut
            clear HR3
            obtain ⟨d4, l4, t4, g4, z0, z1, z2, z3, z4, z5, z6, z7, z8, z9⟩ := R
            have HI := Lib.hid hcut
            clear hcut
            have c0 : wc.cell? ⟨B, 0, none⟩ = some (.int .i64 d4) := HI.out.1.1 0 _ rfl
            have f0 := HI.out.1.2 0
            have c1 : wc.cell? ⟨B, 1, none⟩ = some (.int .i64 l4) := HI.out.1.1 1 _ rfl
            have f1 := HI.out.1.2 1
            have c2 : wc.cell? ⟨B, 2, none⟩ = some (.int .i64 t4) := HI.out.1.1 2 _ rfl
            have f2 := HI.out.1.2 2
            have c3 : wc.cell? ⟨B, 3, none⟩ = some (.int .i64 g4) := HI.out.1.1 3 _ rfl
            have f3 := HI.out.1.2 3
            have c4 : wc.cell? ⟨B, 4, none⟩ = some (.bool z0) := HI.out.1.1 4 _ rfl
            have f4 := HI.out.1.2 4
            have c5 : wc.cell? ⟨B, 5, none⟩ = some (.bool z1) := HI.out.1.1 5 _ rfl
            have f5 := HI.out.1.2 5
            have c6 : wc.cell? ⟨B, 6, none⟩ = some (.bool z2) := HI.out.1.1 6 _ rfl
            have f6 := HI.out.1.2 6
            have c7 : wc.cell? ⟨B, 7, none⟩ = some (.bool z3) := HI.out.1.1 7 _ rfl
            have f7 := HI.out.1.2 7
            have c8 : wc.cell? ⟨B, 8, none⟩ = some (.bool z4) := HI.out.1.1 8 _ rfl
            have f8 := HI.out.1.2 8
            have c9 : wc.cell? ⟨B, 9, none⟩ = some (.bool z5) := HI.out.1.1 9 _ rfl
            have f9 := HI.out.1.2 9
            have c10 : wc.cell? ⟨B, 10, none⟩ = some (.bool z6) := HI.out.1.1 10 _ rfl
            have f10 := HI.out.1.2 10
            have c11 : wc.cell? ⟨B, 11, none⟩ = some (.bool z7) := HI.out.1.1 11 _ rfl
            have f11 := HI.out.1.2 11
            have c12 : wc.cell? ⟨B, 12, none⟩ = some (.bool z8) := HI.out.1.1 12 _ rfl
            have f12 := HI.out.1.2 12
            have c13 : wc.cell? ⟨B, 13, none⟩ = some (.bool z9) := HI.out.1.1 13 _ rfl
            have f13 := HI.out.1.2 13
            have r0 : wc.cell? ⟨r, 0, none⟩ = some (.int .i64 0) := HI.out.2.1.1 0 _ rfl
            have h0 := HI.out.2.1.2 0
            have r1 : wc.cell? ⟨r, 1, none⟩ = some (.int .i64 0) := HI.out.2.1.1 1 _ rfl
            have h1 := HI.out.2.1.2 1
            have r2 : wc.cell? ⟨r, 2, none⟩ = some (.int .i64 0) := HI.out.2.1.1 2 _ rfl
            have h2 := HI.out.2.1.2 2
            have r3 : wc.cell? ⟨r, 3, none⟩ = some (.int .i64 0) := HI.out.2.1.1 3 _ rfl
            have h3 := HI.out.2.1.2 3
            have r4 : wc.cell? ⟨r, 4, none⟩ = some (.bool false) := HI.out.2.1.1 4 _ rfl
            have h4 := HI.out.2.1.2 4
            have r5 : wc.cell? ⟨r, 5, none⟩ = some (.bool false) := HI.out.2.1.1 5 _ rfl
            have h5 := HI.out.2.1.2 5
            have r6 : wc.cell? ⟨r, 6, none⟩ = some (.bool false) := HI.out.2.1.1 6 _ rfl
            have h6 := HI.out.2.1.2 6
            have r7 : wc.cell? ⟨r, 7, none⟩ = some (.bool false) := HI.out.2.1.1 7 _ rfl
            have h7 := HI.out.2.1.2 7
            have r8 : wc.cell? ⟨r, 8, none⟩ = some (.bool false) := HI.out.2.1.1 8 _ rfl
            have h8 := HI.out.2.1.2 8
            have r9 : wc.cell? ⟨r, 9, none⟩ = some (.bool false) := HI.out.2.1.1 9 _ rfl
            have h9 := HI.out.2.1.2 9
            have r10 : wc.cell? ⟨r, 10, none⟩ = some (.bool false) := HI.out.2.1.1 10 _ rfl
            have h10 := HI.out.2.1.2 10
            have r11 : wc.cell? ⟨r, 11, none⟩ = some (.bool false) := HI.out.2.1.1 11 _ rfl
            have h11 := HI.out.2.1.2 11
            have r12 : wc.cell? ⟨r, 12, none⟩ = some (.bool false) := HI.out.2.1.1 12 _ rfl
            have h12 := HI.out.2.1.2 12
            have r13 : wc.cell? ⟨r, 13, none⟩ = some (.bool false) := HI.out.2.1.1 13 _ rfl
            have h13 := HI.out.2.1.2 13
            go_wp2_with fail
            (try simp only [Exit.inBlock, Exit.then])
            refine bodyPost_ret (v := Opt.val ⟨d4, l4, t4, g4, z0, z1, z2, z3, z4, z5, z6, z7, z8, z9⟩) ?_ rfl ⟨rfl, by rw [HB.out]; exact below_stored ⟨d4, l4, t4, g4, z0, z1, z2, z3, z4, z5, z6, z7, z8, z9⟩ hBr HI.out.2.2⟩
            exact res_opt1 rfl _ _ r ⟨d4, l4, t4, g4, z0, z1, z2, z3, z4, z5, z6, z7, z8, z9⟩ rfl (HI.out.2.1.stored ⟨d4, l4, t4, g4, z0, z1, z2, z3, z4, z5, z6, z7, z8, z9⟩)
end Go.Proofs.YtanngknhbgcobaaGreatDoor
/- Options for letters, made of others; options in memory that other blocks leave alone. -/
namespace Go.Proofs.YtanngknhbgcobaaGreatDoor
open Go.RowKit

theorem OptAt.kept {W W' : World} {b : Nat} {o : Opt} {S : List Nat} (h : OptAt W b o) (hk : Kept W W' S) (hb : b ∉ S) : OptAt W' b o := by
  have he := hk.block b h.lt hb
  refine ⟨fun j u hu => ?_, fun i => ?_⟩
  · have := h.1 j u hu
    unfold World.cell? at this ⊢
    rwa [show W'.heap[(⟨b, j, none⟩ : Addr).block]? = W.heap[(⟨b, j, none⟩ : Addr).block]? from he]
  · have := h.2 i
    unfold World.frozen? at this ⊢
    rwa [show W'.heap[(⟨b, i, none⟩ : Addr).block]? = W.heap[(⟨b, i, none⟩ : Addr).block]? from he]
theorem kept_stored (W : World) (b : Nat) (o : Opt) : Kept W (stored W b o) [b] := by
  unfold stored
  repeat (refine Kept.set ?_ (.inl (List.mem_singleton_self _)) _ _)
  exact Kept.refl _ _
/-- Options for letters, made of others. -/
def lettersF (o : Opt) : Opt := rightF { rightF o with b1 := true }
theorem letters_err (o : Opt) : (lettersF o).err = 0 := right_err _
theorem cut1_b1 (o : Opt) : (cut1 o).b1 = o.b1 := by unfold cut1; split <;> rfl
theorem cut2_b1 (o : Opt) : (cut2 o).b1 = o.b1 := by unfold cut2; split <;> rfl
theorem cut3_b1 (o : Opt) : (cut3 o).b1 = o.b1 := by unfold cut3; split <;> rfl
theorem cut4_b1 (o : Opt) : (cut4 o).b1 = o.b1 := by unfold cut4; split <;> rfl
theorem right_b1 (o : Opt) : (rightF o).b1 = o.b1 := by
  unfold rightF
  rw [cut4_b1, cut3_b1, cut2_b1, cut1_b1]
  rfl
theorem letters_b1 (o : Opt) : (lettersF o).b1 = true := right_b1 _
end Go.Proofs.YtanngknhbgcobaaGreatDoor
/- naskhplain.Letters, walked: options for letters, made of others. -/
namespace Go.Proofs.YtanngknhbgcobaaGreatDoor
open Go.RowKit

set_option maxRecDepth 100000 in
set_option maxHeartbeats 8000000 in
theorem lettersO_any (d l t g : Int) (b0 b1 b2 b3 b4 b5 b6 b7 b8 b9 : Bool) (R : Opt) (hR : lettersF ⟨d, l, t, g, b0, b1, b2, b3, b4, b5, b6, b7, b8, b9⟩ = R) (w : World) :
    Calls Tryz.prog 22 #[.agg #[.int .i64 d, .int .i64 l, .int .i64 t, .int .i64 g, .bool b0, .bool b1, .bool b2, .bool b3, .bool b4, .bool b5, .bool b6, .bool b7, .bool b8, .bool b9]] w fun e w' => e = .returned R.val ∧ Below w.heap.size w w' := by
  obtain ⟨P, hP⟩ : ∃ P, rightF ⟨d, l, t, g, b0, b1, b2, b3, b4, b5, b6, b7, b8, b9⟩ = P := ⟨_, rfl⟩
  have hQ : rightF { P with b1 := true } = R := by rw [← hP]; exact hR
  obtain ⟨p0, p1, p2, p3, p4, p5, p6, p7, p8, p9, p10, p11, p12, p13⟩ := P
  simp only at hQ
  have HP := Lib.hid hP
  have HQ := Lib.hid hQ
  obtain ⟨W1, hW1⟩ : ∃ W1, w.alloc (.cells #[.int .i64 d, .int .i64 l, .int .i64 t, .int .i64 g, .bool b0, .bool b1, .bool b2, .bool b3, .bool b4, .bool b5, .bool b6, .bool b7, .bool b8, .bool b9] 24) = W1 := ⟨_, rfl⟩
  have hO1 : OptAt W1 w.heap.size ⟨d, l, t, g, b0, b1, b2, b3, b4, b5, b6, b7, b8, b9⟩ := by rw [← hW1]; exact OptAt.new_ w ⟨d, l, t, g, b0, b1, b2, b3, b4, b5, b6, b7, b8, b9⟩ 24
  have hb1 : Below w.heap.size w W1 := by rw [← hW1]; exact below_new _ _
  obtain ⟨W2, hW2⟩ : ∃ W2, W1.alloc (.cells #[.int .i64 0, .int .i64 0, .int .i64 0, .int .i64 0, .bool false, .bool false, .bool false, .bool false, .bool false, .bool false, .bool false, .bool false, .bool false, .bool false] 24) = W2 := ⟨_, rfl⟩
  have hZ2 : OptAt W2 W1.heap.size Opt.zero := by rw [← hW2]; exact OptAt.new_ W1 Opt.zero 24
  have hb2 : Below W1.heap.size W1 W2 := by rw [← hW2]; exact below_new _ _
  have hO2 := hO1.below hb2
  have hrs : W1.heap.size = w.heap.size + 1 := by rw [← hW1, World.size_alloc]
  have HB2 := Lib.hid (below_self hb1 hb2)
  have HO2 := Lib.hid hO2
  have HZ2 := Lib.hid hZ2
  have c0 : W2.cell? ⟨w.heap.size, 0, none⟩ = some (.int .i64 d) := HO2.out.1 0 _ rfl
  have c1 : W2.cell? ⟨w.heap.size, 1, none⟩ = some (.int .i64 l) := HO2.out.1 1 _ rfl
  have c2 : W2.cell? ⟨w.heap.size, 2, none⟩ = some (.int .i64 t) := HO2.out.1 2 _ rfl
  have c3 : W2.cell? ⟨w.heap.size, 3, none⟩ = some (.int .i64 g) := HO2.out.1 3 _ rfl
  have c4 : W2.cell? ⟨w.heap.size, 4, none⟩ = some (.bool b0) := HO2.out.1 4 _ rfl
  have c5 : W2.cell? ⟨w.heap.size, 5, none⟩ = some (.bool b1) := HO2.out.1 5 _ rfl
  have c6 : W2.cell? ⟨w.heap.size, 6, none⟩ = some (.bool b2) := HO2.out.1 6 _ rfl
  have c7 : W2.cell? ⟨w.heap.size, 7, none⟩ = some (.bool b3) := HO2.out.1 7 _ rfl
  have c8 : W2.cell? ⟨w.heap.size, 8, none⟩ = some (.bool b4) := HO2.out.1 8 _ rfl
  have c9 : W2.cell? ⟨w.heap.size, 9, none⟩ = some (.bool b5) := HO2.out.1 9 _ rfl
  have c10 : W2.cell? ⟨w.heap.size, 10, none⟩ = some (.bool b6) := HO2.out.1 10 _ rfl
  have c11 : W2.cell? ⟨w.heap.size, 11, none⟩ = some (.bool b7) := HO2.out.1 11 _ rfl
  have c12 : W2.cell? ⟨w.heap.size, 12, none⟩ = some (.bool b8) := HO2.out.1 12 _ rfl
  have c13 : W2.cell? ⟨w.heap.size, 13, none⟩ = some (.bool b9) := HO2.out.1 13 _ rfl
  clear hP hQ hR hO1 hb1 hZ2 hb2 hO2
  go_enter Tryz.func22, Tryz.ntmps22
  go_wp2_with fail
  try simp only [hW1]
  try simp only [hrs]
  try simp only [hW2]
  refine (right_any d l t g b0 b1 b2 b3 b4 b5 b6 b7 b8 b9 ⟨p0, p1, p2, p3, p4, p5, p6, p7, p8, p9, p10, p11, p12, p13⟩ HP.out _).mono ?_
  rintro e w3 ⟨rfl, hb3⟩
  have HO3 := Lib.hid (HO2.out.below hb3)
  have HZ3 := Lib.hid (HZ2.out.below hb3)
  have HB3 := Lib.hid (below_self HB2.out hb3)
  rw [hrs] at HZ3
  clear hb3 HB2 HO2 HZ2 c0 c1 c2 c3 c4 c5 c6 c7 c8 c9 c10 c11 c12 c13 hW1 hW2 hrs
  simp only [Opt.val, Opt.cells]
  have c0 : w3.cell? ⟨w.heap.size, 0, none⟩ = some (.int .i64 d) := HO3.out.1 0 _ rfl
  have c1 : w3.cell? ⟨w.heap.size, 1, none⟩ = some (.int .i64 l) := HO3.out.1 1 _ rfl
  have c2 : w3.cell? ⟨w.heap.size, 2, none⟩ = some (.int .i64 t) := HO3.out.1 2 _ rfl
  have c3 : w3.cell? ⟨w.heap.size, 3, none⟩ = some (.int .i64 g) := HO3.out.1 3 _ rfl
  have c4 : w3.cell? ⟨w.heap.size, 4, none⟩ = some (.bool b0) := HO3.out.1 4 _ rfl
  have c5 : w3.cell? ⟨w.heap.size, 5, none⟩ = some (.bool b1) := HO3.out.1 5 _ rfl
  have c6 : w3.cell? ⟨w.heap.size, 6, none⟩ = some (.bool b2) := HO3.out.1 6 _ rfl
  have c7 : w3.cell? ⟨w.heap.size, 7, none⟩ = some (.bool b3) := HO3.out.1 7 _ rfl
  have c8 : w3.cell? ⟨w.heap.size, 8, none⟩ = some (.bool b4) := HO3.out.1 8 _ rfl
  have c9 : w3.cell? ⟨w.heap.size, 9, none⟩ = some (.bool b5) := HO3.out.1 9 _ rfl
  have c10 : w3.cell? ⟨w.heap.size, 10, none⟩ = some (.bool b6) := HO3.out.1 10 _ rfl
  have c11 : w3.cell? ⟨w.heap.size, 11, none⟩ = some (.bool b7) := HO3.out.1 11 _ rfl
  have c12 : w3.cell? ⟨w.heap.size, 12, none⟩ = some (.bool b8) := HO3.out.1 12 _ rfl
  have c13 : w3.cell? ⟨w.heap.size, 13, none⟩ = some (.bool b9) := HO3.out.1 13 _ rfl
  have f0 := HO3.out.2 0
  have f1 := HO3.out.2 1
  have f2 := HO3.out.2 2
  have f3 := HO3.out.2 3
  have f4 := HO3.out.2 4
  have f5 := HO3.out.2 5
  have f6 := HO3.out.2 6
  have f7 := HO3.out.2 7
  have f8 := HO3.out.2 8
  have f9 := HO3.out.2 9
  have f10 := HO3.out.2 10
  have f11 := HO3.out.2 11
  have f12 := HO3.out.2 12
  have f13 := HO3.out.2 13
  obtain ⟨B, hB⟩ : ∃ B, w.heap.size = B := ⟨_, rfl⟩
  have hO3 := HO3.out
  have hZ3 := HZ3.out
  have hB3 := HB3.out
  rw [hB] at hO3 hZ3 hB3
  try simp only [hB]
  simp only [hB] at c0 c1 c2 c3 c4 c5 c6 c7 c8 c9 c10 c11 c12 c13 f0 f1 f2 f3 f4 f5 f6 f7 f8 f9 f10 f11 f12 f13
  have HBE := Lib.hid hB
  have HO3 := Lib.hid hO3
  have HZ3 := Lib.hid hZ3
  have HB3 := Lib.hid hB3
  clear hO3 hZ3 hB3 hB
  go_upto_region 2 with fail
  obtain ⟨W4, hW4⟩ : ∃ W4, stored w3 B ⟨p0, p1, p2, p3, p4, p5, p6, p7, p8, p9, p10, p11, p12, p13⟩ = W4 := ⟨_, rfl⟩
  have HO4 := Lib.hid (show OptAt W4 B ⟨p0, p1, p2, p3, p4, p5, p6, p7, p8, p9, p10, p11, p12, p13⟩ by rw [← hW4]; exact HO3.out.stored _)
  have HK4 := Lib.hid (show Kept w3 W4 [B] by rw [← hW4]; exact kept_stored _ _ _)
  have HZ4 := Lib.hid (HZ3.out.kept HK4.out (by simp))
  unfold stored at hW4
  simp only at hW4
  rw [hW4]
  clear c0 c1 c2 c3 c4 c5 c6 c7 c8 c9 c10 c11 c12 c13 f0 f1 f2 f3 f4 f5 f6 f7 f8 f9 f10 f11 f12 f13 hW4
  have c5 : W4.cell? ⟨B, 5, none⟩ = some (.bool p5) := HO4.out.1 5 _ rfl
  have f5 := HO4.out.2 5
  go_upto_region 3 with fail
  obtain ⟨W5, hW5⟩ : ∃ W5, W4.setCell ⟨B, 5, none⟩ (.bool true) = W5 := ⟨_, rfl⟩
  have HO5 := Lib.hid (show OptAt W5 B ⟨p0, p1, p2, p3, p4, true, p6, p7, p8, p9, p10, p11, p12, p13⟩ by rw [← hW5]; exact HO4.out.setF1 true)
  have HK5 := Lib.hid (show Kept w3 W5 [B] by rw [← hW5]; exact HK4.out.set (.inl (by simp)) _ _)
  have HZ5 := Lib.hid (HZ3.out.kept HK5.out (by simp))
  rw [hW5]
  clear c5 f5 hW5
  have c0 : W5.cell? ⟨B, 0, none⟩ = some (.int .i64 p0) := HO5.out.1 0 _ rfl
  have c1 : W5.cell? ⟨B, 1, none⟩ = some (.int .i64 p1) := HO5.out.1 1 _ rfl
  have c2 : W5.cell? ⟨B, 2, none⟩ = some (.int .i64 p2) := HO5.out.1 2 _ rfl
  have c3 : W5.cell? ⟨B, 3, none⟩ = some (.int .i64 p3) := HO5.out.1 3 _ rfl
  have c4 : W5.cell? ⟨B, 4, none⟩ = some (.bool p4) := HO5.out.1 4 _ rfl
  have c5 : W5.cell? ⟨B, 5, none⟩ = some (.bool true) := HO5.out.1 5 _ rfl
  have c6 : W5.cell? ⟨B, 6, none⟩ = some (.bool p6) := HO5.out.1 6 _ rfl
  have c7 : W5.cell? ⟨B, 7, none⟩ = some (.bool p7) := HO5.out.1 7 _ rfl
  have c8 : W5.cell? ⟨B, 8, none⟩ = some (.bool p8) := HO5.out.1 8 _ rfl
  have c9 : W5.cell? ⟨B, 9, none⟩ = some (.bool p9) := HO5.out.1 9 _ rfl
  have c10 : W5.cell? ⟨B, 10, none⟩ = some (.bool p10) := HO5.out.1 10 _ rfl
  have c11 : W5.cell? ⟨B, 11, none⟩ = some (.bool p11) := HO5.out.1 11 _ rfl
  have c12 : W5.cell? ⟨B, 12, none⟩ = some (.bool p12) := HO5.out.1 12 _ rfl
  have c13 : W5.cell? ⟨B, 13, none⟩ = some (.bool p13) := HO5.out.1 13 _ rfl
  go_wp2_with fail
  obtain ⟨r0, r1, r2, r3, r4, r5, r6, r7, r8, r9, r10, r11, r12, r13⟩ := R
  refine (right_any p0 p1 p2 p3 p4 true p6 p7 p8 p9 p10 p11 p12 p13 ⟨r0, r1, r2, r3, r4, r5, r6, r7, r8, r9, r10, r11, r12, r13⟩ HQ.out _).mono ?_
  rintro e w6 ⟨rfl, hb6⟩
  have HZ6 := Lib.hid (HZ5.out.below hb6)
  have HB6 := Lib.hid (show Below B w w6 from ((HK5.out.trans (Kept.of_below hb6 _)).lower HB3.out (by rw [← HBE.out]; exact HB3.out.size) (by simp)))
  clear hb6 c0 c1 c2 c3 c4 c5 c6 c7 c8 c9 c10 c11 c12 c13
  simp only [Opt.val, Opt.cells]
  have c0 : w6.cell? ⟨B + 1, 0, none⟩ = some (.int .i64 0) := HZ6.out.1 0 _ rfl
  have c1 : w6.cell? ⟨B + 1, 1, none⟩ = some (.int .i64 0) := HZ6.out.1 1 _ rfl
  have c2 : w6.cell? ⟨B + 1, 2, none⟩ = some (.int .i64 0) := HZ6.out.1 2 _ rfl
  have c3 : w6.cell? ⟨B + 1, 3, none⟩ = some (.int .i64 0) := HZ6.out.1 3 _ rfl
  have c4 : w6.cell? ⟨B + 1, 4, none⟩ = some (.bool false) := HZ6.out.1 4 _ rfl
  have c5 : w6.cell? ⟨B + 1, 5, none⟩ = some (.bool false) := HZ6.out.1 5 _ rfl
  have c6 : w6.cell? ⟨B + 1, 6, none⟩ = some (.bool false) := HZ6.out.1 6 _ rfl
  have c7 : w6.cell? ⟨B + 1, 7, none⟩ = some (.bool false) := HZ6.out.1 7 _ rfl
  have c8 : w6.cell? ⟨B + 1, 8, none⟩ = some (.bool false) := HZ6.out.1 8 _ rfl
  have c9 : w6.cell? ⟨B + 1, 9, none⟩ = some (.bool false) := HZ6.out.1 9 _ rfl
  have c10 : w6.cell? ⟨B + 1, 10, none⟩ = some (.bool false) := HZ6.out.1 10 _ rfl
  have c11 : w6.cell? ⟨B + 1, 11, none⟩ = some (.bool false) := HZ6.out.1 11 _ rfl
  have c12 : w6.cell? ⟨B + 1, 12, none⟩ = some (.bool false) := HZ6.out.1 12 _ rfl
  have c13 : w6.cell? ⟨B + 1, 13, none⟩ = some (.bool false) := HZ6.out.1 13 _ rfl
  have f0 := HZ6.out.2 0
  have f1 := HZ6.out.2 1
  have f2 := HZ6.out.2 2
  have f3 := HZ6.out.2 3
  have f4 := HZ6.out.2 4
  have f5 := HZ6.out.2 5
  have f6 := HZ6.out.2 6
  have f7 := HZ6.out.2 7
  have f8 := HZ6.out.2 8
  have f9 := HZ6.out.2 9
  have f10 := HZ6.out.2 10
  have f11 := HZ6.out.2 11
  have f12 := HZ6.out.2 12
  have f13 := HZ6.out.2 13
  go_wp2_with fail
  (try simp only [Exit.inBlock, Exit.then])
  refine bodyPost_ret (v := Opt.val ⟨r0, r1, r2, r3, r4, r5, r6, r7, r8, r9, r10, r11, r12, r13⟩) ?_ rfl ⟨rfl, by rw [HBE.out]; exact below_stored ⟨r0, r1, r2, r3, r4, r5, r6, r7, r8, r9, r10, r11, r12, r13⟩ (by omega) HB6.out⟩
  exact res_opt1 rfl _ _ (B + 1) ⟨r0, r1, r2, r3, r4, r5, r6, r7, r8, r9, r10, r11, r12, r13⟩ rfl (HZ6.out.stored ⟨r0, r1, r2, r3, r4, r5, r6, r7, r8, r9, r10, r11, r12, r13⟩)
end Go.Proofs.YtanngknhbgcobaaGreatDoor
