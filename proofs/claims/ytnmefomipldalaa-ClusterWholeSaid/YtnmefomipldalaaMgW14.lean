/- Texts of one claim, one behind the other. -/
import Derived.Test.YtnmefomipldalaaMgW2
import Derived.Test.YtnmefomipldalaaMgW4
import Derived.Test.YtnmefomipldalaaMgW9
import Derived.Test.YtnmefomipldalaaMgW12
import Derived.Test.YtnmefomipldalaaMgW13
/- naskhlaw04's awake, and ClusterChecks. -/
namespace Go.Proofs.Ytnmefomipldalaa
open Go.RowKit

def crossL : List Cl := [((0, 1), (1, 2)), ((1, 2), (0, 1))]
theorem cross_cov : ∀ l', List.Perm l' (crossL.map Prod.snd) → LoSorted l' → covB ((2 : Nat) : Int) l' = true := fun l' hp hs => by
  refine (covB_iff hp hs (fun s h => ?_) (by omega)).2 (fun j h1 h2 => ?_)
  · have h' : s = (1, 2) ∨ s = (0, 1) := by simpa [crossL] using h
    rcases h' with rfl | rfl <;> simp
  · have h' : j = 0 ∨ j = 1 := by omega
    rcases h' with rfl | rfl
    · exact ⟨(0, 1), by simp [crossL], by simp, by simp⟩
    · exact ⟨(1, 2), by simp [crossL], by simp, by simp⟩
theorem cross_Finest (q : Nat) (hq : q = 2) (A : Option Addr) (c : Nat) (w : World) (hr : Rd w 4 A q (cellsC crossL)) :
    Calls Try.prog 16 #[.int .i64 2, .int .i64 2, .slice A q c] w fun e w' => ∃ v, e = .returned (.tuple #[v, .int .i64 0]) ∧ w'.ownsRow w.heap.size 33 4 v 2 (cellsC crossL) ∧ Below w.heap.size w w' := by
  refine (prFinest_ok 2 2 q c A crossL w hr (by omega) rfl (by omega) (by omega) cross_cov (by simp [crossL])).mono ?_
  rintro e w' ⟨v, l', rfl, hf, hown, hb⟩
  have h9 : l' = crossK := Finest.only hf cross_finest
  rw [h9] at hown
  exact ⟨v, rfl, hown, hb⟩
theorem rd_cross (w : World) : Rd (w.alloc (.cells #[.int .i64 0, .int .i64 1, .int .i64 1, .int .i64 2, .int .i64 1, .int .i64 2, .int .i64 0, .int .i64 1] 33)) 4 (some ⟨w.heap.size, 0, none⟩) 2 (cellsC crossL) :=
  ⟨rfl, fun _ => ⟨_, rfl, by simp, cells_new w [.int .i64 0, .int .i64 1, .int .i64 1, .int .i64 2, .int .i64 1, .int .i64 2, .int .i64 0, .int .i64 1] 33⟩⟩
set_option maxRecDepth 100000 in
set_option maxHeartbeats 1000000 in
theorem awakeCl_any (w : World) : Calls Try.prog 12 #[] w fun e w' => e = .returned (.bool true) ∧ Below w.heap.size w w' := by
  go_enter Try.func12, Try.ntmps12
  have s1 := SpanBlk.new_ w 0 1 31
  have b1 := below_new w (.cells #[.int .i64 0, .int .i64 1] 31)
  have s2 := SpanBlk.new_ (w.alloc (.cells #[.int .i64 0, .int .i64 1] 31)) 1 2 31
  have b2 := below_new (w.alloc (.cells #[.int .i64 0, .int .i64 1] 31)) (.cells #[.int .i64 1, .int .i64 2] 31)
  have b3 := below_new ((w.alloc (.cells #[.int .i64 0, .int .i64 1] 31)).alloc (.cells #[.int .i64 1, .int .i64 2] 31)) (.cells #[.int .i64 0, .int .i64 1, .int .i64 1, .int .i64 2, .int .i64 1, .int .i64 2, .int .i64 0, .int .i64 1] 33)
  have r1 := rd_cross ((w.alloc (.cells #[.int .i64 0, .int .i64 1] 31)).alloc (.cells #[.int .i64 1, .int .i64 2] 31))
  have t1 := (s1.below b2).below b3
  have t2 := s2.below b3
  simp only [World.size_alloc] at t2 r1
  have hall := below_self (below_self b1 b2) b3
  clear s1 s2 b1 b2 b3
  go_wp2_with fail
  refine (cross_Finest 2 rfl _ _ _ r1).mono ?_
  rintro e w1 ⟨v, rfl, hown, hb1⟩
  have hb2 := below_self hall hb1
  obtain ⟨V, cv, rfl, _⟩ := own_form hown
  have r2 := Rd.of_own hown
  obtain ⟨u0, u1, _, _⟩ := t1.below hb1
  obtain ⟨u2, u3, _, _⟩ := t2.below hb1
  clear hown hall t1 t2 r1 hb1
  go_wp2_with fail
  have hb3 := below_new w1 (.cells #[.int .i64 0, .int .i64 1, .int .i64 1, .int .i64 2, .int .i64 1, .int .i64 2, .int .i64 0, .int .i64 1] 33)
  refine (equalC_b V (some ⟨w1.heap.size, 0, none⟩) 2 2 cv 2 crossL crossL _ (r2.below hb3) (rd_cross w1) (by unfold maxLen; omega) (by unfold maxLen; omega)).mono ?_
  rintro e w2 ⟨rfl, hb4⟩
  rw [show decide (crossL = crossL) = true from decide_eq_true rfl]
  have hb5 := below_self hb3 hb4
  have hb6 := below_self hb2 hb5
  have r3 := r2.below hb5
  clear r2 hb3 hb4 hb5 hb2
  go_wp2_with fail
  refine (prCheckC_any V 2 cv crossL 2 2 w2 r3 (by omega)).mono ?_
  rintro e w3 ⟨rfl, hb7⟩
  rw [show checkC crossL 2 2 = true by decide]
  have hb8 := below_self hb6 hb7
  go_wp2_with fail
  refine (prIdentity_any 3 w3 (by omega)).mono ?_
  rintro e w4 ⟨v, rfl, hown, hb9⟩
  obtain ⟨V2, cv2, rfl, _⟩ := own_form hown
  have hb10 := below_self hb8 hb9
  clear hown
  go_wp2_with fail
  go_ret
  exact ⟨rfl, hb10⟩
set_option maxRecDepth 100000 in
set_option maxHeartbeats 1000000 in
theorem clusterChecks_any (A : Option Addr) (n c : Nat) (l : List Cl) (m p : Int) (w : World) (hr : Rd w 4 A n (cellsC l)) (hn : n ≤ maxLen) :
    Calls Try.prog 3 #[.slice A n c, .int .i64 m, .int .i64 p] w fun e w' => e = .returned (.bool true) ∧ Below w.heap.size w w' := by
  unfold maxLen at hn
  go_enter Try.func3, Try.ntmps3
  by_cases h : 60 < n
  · go_wp2_with fail
    refine (awakeCl_any w).mono ?_
    rintro e w1 ⟨rfl, hb1⟩
    go_wp2_with fail
    go_ret
    exact ⟨rfl, hb1⟩
  · go_wp2_with fail
    refine (prCheckC_any A n c l m p w hr (by omega)).mono ?_
    rintro e w1 ⟨rfl, hb1⟩
    go_wp2_with fail
    refine (refCheckC_any A n c l m p w1 (hr.below hb1) (by omega)).mono ?_
    rintro e w2 ⟨rfl, hb2⟩
    have hb3 := below_self hb1 hb2
    obtain ⟨b, hb⟩ : ∃ b, checkC l m p = b := ⟨_, rfl⟩
    rw [hb]
    clear hb
    cases b
    all_goals
      go_wp2_with fail
      refine (awakeCl_any w2).mono ?_
      rintro e w3 ⟨rfl, hb4⟩
      have hb5 := below_self hb3 hb4
      go_wp2_with fail
      go_ret
      exact ⟨rfl, hb5⟩
end Go.Proofs.Ytnmefomipldalaa
/- naskhlaw04's few and ClusterWhole, walked. -/
namespace Go.Proofs.Ytnmefomipldalaa
open Go.RowKit

/-- What few answers. -/
def FewAns (w w' : World) (n : Nat) (l : List Cl) (e : Ending) : Prop := ∃ b : Bool, e = .returned (.bool b) ∧ (b = true → n ≤ 30 ∧ ∀ x ∈ l, x.1.2 ≤ 60 ∧ x.2.2 ≤ 60) ∧ Below w.heap.size w w'
set_option maxRecDepth 100000 in
set_option maxHeartbeats 1000000 in
theorem few_any (A : Option Addr) (n c : Nat) (l : List Cl) (w : World) (hr : Rd w 4 A n (cellsC l)) (hn : n ≤ maxLen) :
    Calls Try.prog 15 #[.slice A n c] w fun e w' => FewAns w w' n l e := by
  unfold maxLen at hn
  have hlen : l.length = n := by have := hr.1; rw [cellsC_len] at this; omega
  have HL := Lib.hid hlen
  have HR := Lib.hid hr
  clear hlen hr
  go_enter Try.func15, Try.ntmps15
  go_wp2_with fail
  go_loopw [7] (fun i ws => ∃ k : Nat, k ≤ n ∧ k ≤ 30 ∧ i = .int .i64 (k : Int) ∧ (∀ j x, j < k → l[j]? = some x → x.1.2 ≤ 60 ∧ x.2.2 ≤ 60) ∧ Below w.heap.size w ws) (fun i _ => n - (intOf i).toNat)
  case atStart => exact ⟨0, Nat.zero_le _, Nat.zero_le _, rfl, fun j x hj => absurd hj (Nat.not_lt_zero _), Below.refl _ _⟩
  case round =>
    obtain ⟨k, hk, hk30, rfl, hall, hb⟩ := hrel
    have HA := Lib.hid hall
    clear hall
    by_cases hlt : k < n
    · obtain ⟨x, hx⟩ : ∃ x, l[k]? = some x := ⟨_, List.getElem?_eq_getElem (by rw [HL.out]; exact hlt)⟩
      obtain ⟨ad, rfl, hab, c0, c1, c2, c3⟩ := (HR.out.below hb).clus hx
      obtain ⟨⟨x1, x2⟩, x3, x4⟩ := x
      simp only at c0 c1 c2 c3
      have HX := Lib.hid hx
      clear hx
      have hb2 := below_self hb (below_new wr (.cells #[.int .i64 x1, .int .i64 x2, .int .i64 x3, .int .i64 x4] 33))
      have hnw := cells_new wr [.int .i64 x1, .int .i64 x2, .int .i64 x3, .int .i64 x4] 33
      have d1 := hnw 1 _ rfl
      have d3 := hnw 3 _ rfl
      rw [addNew] at d1 d3
      clear hnw hb
      by_cases h30 : 30 ≤ k
      · go_wp2_with fail
        go_ret
        exact ⟨false, rfl, (fun h => by cases h), hb2⟩
      · by_cases h2 : 60 < x2
        · go_wp2_with fail
          go_ret
          exact ⟨false, rfl, (fun h => by cases h), hb2⟩
        · by_cases h4 : 60 < x4
          · go_wp2_with fail
            go_ret
            exact ⟨false, rfl, (fun h => by cases h), hb2⟩
          · go_wp2_with fail
            go_roundw
            case rel =>
              refine ⟨k + 1, by omega, by omega, by go_num, fun j x hj hx => ?_, hb2⟩
              by_cases hjk : j = k
              · subst hjk
                rw [HX.out] at hx
                obtain rfl := Option.some.inj hx
                simp only
                omega
              · exact HA.out j x (by omega) hx
            case measure => simp [intOf]; omega
    · go_wp2_with fail
      go_ret
      refine ⟨true, rfl, fun _ => ⟨by omega, fun x hx => ?_⟩, hb⟩
      obtain ⟨j, hj⟩ := List.getElem?_of_mem hx
      have := (List.getElem?_eq_some_iff.1 hj).1
      exact HA.out j x (by have := HL.out; omega) hj
theorem tiles_len : ∀ {l : List NC} {s n : Nat}, Tiles s l n → l.length + s ≤ n
  | [], s, n, h => by have h' : s = n := h; simp; omega
  | x :: l, s, n, ⟨h1, h2, h3⟩ => by have := tiles_len h3; simp only [List.length_cons]; omega
theorem finIs_len {n m : Nat} {l : List Cl} {l' : List NC} (h : FinIs n m l l') : l'.length ≤ n := by
  by_cases hn : n = 0
  · rw [h.1 hn]; exact Nat.zero_le _
  · have := tiles_len (h.2 hn).tiles; omega
theorem any_snoc {α : Type} {l : List α} {j : Nat} {y : α} (f : α → Bool) (h : l[j]? = some y) : (l.take (j + 1)).any f = ((l.take j).any f || f y) := by
  rw [List.take_add_one, h]; simp
theorem ins_1 {c x : Cl} (h : ¬ c.1.1 ≤ x.1.1) : insB c x = false := by unfold insB; rw [decide_eq_false h]; rfl
theorem ins_2 {c x : Cl} (h : ¬ x.1.2 ≤ c.1.2) : insB c x = false := by unfold insB; rw [decide_eq_false h]; simp
theorem ins_3 {c x : Cl} (h : ¬ c.2.1 ≤ x.2.1) : insB c x = false := by unfold insB; rw [decide_eq_false h]; simp
theorem ins_4 {c x : Cl} (h : ¬ x.2.2 ≤ c.2.2) : insB c x = false := by unfold insB; rw [decide_eq_false h]; simp
theorem ins_5 {c x : Cl} (h1 : c.1.1 ≤ x.1.1) (h2 : x.1.2 ≤ c.1.2) (h3 : c.2.1 ≤ x.2.1) (h4 : x.2.2 ≤ c.2.2) : insB c x = true := by unfold insB; rw [decide_eq_true h1, decide_eq_true h2, decide_eq_true h3, decide_eq_true h4]; rfl
set_option maxRecDepth 100000 in
set_option maxHeartbeats 2000000 in
theorem clusterWhole_any (n m : Int) (A : Option Addr) (q c : Nat) (l : List Cl) (w : World) (hr : Rd w 4 A q (cellsC l)) (hq : q ≤ maxLen) :
    Calls Try.prog 5 #[.int .i64 n, .int .i64 m, .slice A q c] w fun e w' => e = .returned (.bool true) ∧ Below w.heap.size w w' := by
  have hlen : l.length = q := by have := hr.1; rw [cellsC_len] at this; omega
  have HL := Lib.hid hlen
  have HR := Lib.hid hr
  have HF := Lib.hid (few_any A q c l w hr hq)
  unfold maxLen at hq
  clear hlen hr
  go_enter Try.func5, Try.ntmps5
  go_wp2_with fail
  refine HF.out.mono ?_
  rintro e w1 ⟨b, rfl, hfew, hb1⟩
  have HW := Lib.hid hfew
  clear hfew
  by_cases hgo : b = true ∧ n ≤ 60 ∧ m ≤ 60
  · obtain ⟨rfl, hn60, hm60⟩ := hgo
    obtain ⟨hq30, hx60⟩ := HW.out rfl
    clear hx60
    go_wp2_with fail
    refine (prFinest_all n m q c A l w1 (HR.out.below hb1) (by omega)).mono ?_
    rintro e w2 ⟨hans, hb2⟩
    have hb12 := below_self hb1 hb2
    rcases hans with ⟨hne, rfl⟩ | ⟨h0, n1, n2, m1, m2, hfit, hcov, v, l', rfl, hfi, hown⟩
    · obtain ⟨er, her⟩ : ∃ er, finE n m l = er := ⟨_, rfl⟩
      rw [her] at hne ⊢
      clear her
      go_wp2_with fail
      refine (awakeCl_any w2).mono ?_
      rintro e w3 ⟨rfl, hb3⟩
      have hb4 := below_self hb12 hb3
      go_wp2_with fail
      go_ret
      exact ⟨rfl, hb4⟩
    · obtain ⟨V, cv, rfl, _⟩ := own_form hown
      have r2 := Rd.of_own hown
      obtain ⟨p, hp⟩ : ∃ p, l'.length = p := ⟨_, rfl⟩
      have hp60 : p ≤ 60 := by rw [← hp]; have := finIs_len hfi; omega
      rw [hp] at r2 ⊢
      have HC := Lib.hid (show checkC (l'.map NC.cl) n m = true by
        have := finIs_check hfi (by rw [Int.toNat_of_nonneg n1, Int.toNat_of_nonneg m1]; exact hfit) (by rw [Int.toNat_of_nonneg m1]; exact hcov)
        rwa [Int.toNat_of_nonneg n1, Int.toNat_of_nonneg m1] at this)
      have HH := Lib.hid (fun (x : Cl) (hx : x ∈ l) => finIs_holds hfi (by rw [Int.toNat_of_nonneg n1, Int.toNat_of_nonneg m1]; exact hfit) hx)
      obtain ⟨L, hL⟩ : ∃ L, l'.map NC.cl = L := ⟨_, rfl⟩
      have HP := Lib.hid (show L.length = p by rw [← hL, List.length_map]; exact hp)
      rw [hL] at r2 HC HH
      have HR2 := Lib.hid r2
      clear hown hfi hL hp h0 hfit hcov r2
      go_wp2_with fail
      refine (prCheckC_any V p cv L n m w2 HR2.out (by omega)).mono ?_
      rintro e w3 ⟨rfl, hb3⟩
      rw [HC.out]
      have hb23 := below_self hb2 hb3
      have HR3 := Lib.hid (HR2.out.below hb3)
      have HRA := Lib.hid ((HR.out.below hb1).below hb23)
      have hbA := below_self hb1 hb23
      have HB := Lib.hid hbA
      clear hb1 hb2 hb12 hb23 hb3 hbA
      go_wp2_with fail
      go_loopw [48] (fun i ws => ∃ k : Nat, k ≤ q ∧ i = .int .i64 (k : Int) ∧ Below w3.heap.size w3 ws) (fun i _ => q - (intOf i).toNat)
      case atStart => exact ⟨0, Nat.zero_le _, rfl, Below.refl _ _⟩
      case round =>
        obtain ⟨k, hk, rfl, hb⟩ := hrel
        by_cases hlt : k < q
        · obtain ⟨x, hx⟩ : ∃ x, l[k]? = some x := ⟨_, List.getElem?_eq_getElem (by rw [HL.out]; exact hlt)⟩
          have HIN := Lib.hid (HH.out x (List.mem_of_getElem? hx))
          obtain ⟨ad, rfl, hab, c0, c1, c2, c3⟩ := (HRA.out.below hb).clus hx
          obtain ⟨⟨x1, x2⟩, x3, x4⟩ := x
          simp only at c0 c1 c2 c3
          clear hx
          have hb2 := below_self hb (below_new wr (.cells #[.int .i64 x1, .int .i64 x2, .int .i64 x3, .int .i64 x4] 33))
          have hnw := cells_new wr [.int .i64 x1, .int .i64 x2, .int .i64 x3, .int .i64 x4] 33
          have d0 := hnw 0 _ rfl
          have d1 := hnw 1 _ rfl
          have d2 := hnw 2 _ rfl
          have d3 := hnw 3 _ rfl
          have hsz : wr.heap.size < (wr.alloc (.cells #[.int .i64 x1, .int .i64 x2, .int .i64 x3, .int .i64 x4] 33)).heap.size := by simp
          rw [addNew] at d0 d1 d2 d3
          obtain ⟨W0, hW0⟩ : ∃ W0, wr.alloc (.cells #[.int .i64 x1, .int .i64 x2, .int .i64 x3, .int .i64 x4] 33) = W0 := ⟨_, rfl⟩
          rw [hW0] at d0 d1 d2 d3 hb2 hsz
          obtain ⟨bk, hbk⟩ : ∃ bk, wr.heap.size = bk := ⟨_, rfl⟩
          rw [hbk] at d0 d1 d2 d3 hsz
          have D := Lib.hid (And.intro d0 (And.intro d1 (And.intro d2 d3)))
          have HB2 := Lib.hid hb2
          clear hnw hb d0 d1 d2 d3 hb2
          go_wp2_with fail
          try simp only [hW0, hbk]
          clear c0 c1 c2 c3 hW0 hbk hab
          go_loopw [11, 54] (fun f i ws => ∃ j : Nat, j ≤ p ∧ f = .bool ((L.take j).any fun y => insB y ((x1, x2), x3, x4)) ∧ i = .int .i64 (j : Int) ∧ Below W0.heap.size W0 ws) (fun _ i _ => p - (intOf i).toNat)
          case atStart => exact ⟨0, Nat.zero_le _, rfl, rfl, Below.refl _ _⟩
          case round =>
            obtain ⟨j, hj, rfl, rfl, hb⟩ := hrel
            by_cases hjlt : j < p
            · obtain ⟨y, hy⟩ : ∃ y, L[j]? = some y := ⟨_, List.getElem?_eq_getElem (by rw [HP.out]; exact hjlt)⟩
              have hb3 := below_self HB2.out hb
              obtain ⟨bd, rfl, hbb, c0, c1, c2, c3⟩ := (HR3.out.below hb3).clus hy
              have HS := Lib.hid (any_snoc (fun y => insB y ((x1, x2), x3, x4)) hy)
              obtain ⟨⟨y1, y2⟩, y3, y4⟩ := y
              simp only at c0 c1 c2 c3
              clear hy hb3
              have hbn := below_new wr (.cells #[.int .i64 y1, .int .i64 y2, .int .i64 y3, .int .i64 y4] 33)
              have HBN := Lib.hid (below_self hb hbn)
              have hnw := cells_new wr [.int .i64 y1, .int .i64 y2, .int .i64 y3, .int .i64 y4] 33
              have e0 := hnw 0 _ rfl
              have e1 := hnw 1 _ rfl
              have e2 := hnw 2 _ rfl
              have e3 := hnw 3 _ rfl
              rw [addNew] at e0 e1 e2 e3
              have d0 := cell_below hbn (cell_below hb D.out.1)
              have d1 := cell_below hbn (cell_below hb D.out.2.1)
              have d2 := cell_below hbn (cell_below hb D.out.2.2.1)
              have d3 := cell_below hbn (cell_below hb D.out.2.2.2)
              clear hnw hb hbn
              obtain ⟨b, hbv⟩ : ∃ b, ((L.take j).any fun y => insB y ((x1, x2), x3, x4)) = b := ⟨_, rfl⟩
              rw [hbv] at HS ⊢
              clear hbv
              cases b with
              | true =>
                go_wp2_with fail
                go_roundw
                case rel => exact ⟨j + 1, by omega, by rw [HS.out]; rfl, by go_num, HBN.out⟩
                case measure => simp [intOf]; omega
              | false =>
                by_cases h1 : y1 ≤ x1
                · by_cases h2 : x2 ≤ y2
                  · by_cases h3 : y3 ≤ x3
                    · by_cases h4 : x4 ≤ y4
                      · have HV := Lib.hid (ins_5 (c := ((y1, y2), y3, y4)) (x := ((x1, x2), x3, x4)) h1 h2 h3 h4)
                        go_wp2_with fail
                        go_roundw
                        case rel => exact ⟨j + 1, by omega, by rw [HS.out, HV.out]; rfl, by go_num, HBN.out⟩
                        case measure => simp [intOf]; omega
                      · have HV := Lib.hid (ins_4 (c := ((y1, y2), y3, y4)) (x := ((x1, x2), x3, x4)) h4)
                        go_wp2_with fail
                        go_roundw
                        case rel => exact ⟨j + 1, by omega, by rw [HS.out, HV.out]; rfl, by go_num, HBN.out⟩
                        case measure => simp [intOf]; omega
                    · have HV := Lib.hid (ins_3 (c := ((y1, y2), y3, y4)) (x := ((x1, x2), x3, x4)) h3)
                      go_wp2_with fail
                      go_roundw
                      case rel => exact ⟨j + 1, by omega, by rw [HS.out, HV.out]; rfl, by go_num, HBN.out⟩
                      case measure => simp [intOf]; omega
                  · have HV := Lib.hid (ins_2 (c := ((y1, y2), y3, y4)) (x := ((x1, x2), x3, x4)) h2)
                    go_wp2_with fail
                    go_roundw
                    case rel => exact ⟨j + 1, by omega, by rw [HS.out, HV.out]; rfl, by go_num, HBN.out⟩
                    case measure => simp [intOf]; omega
                · have HV := Lib.hid (ins_1 (c := ((y1, y2), y3, y4)) (x := ((x1, x2), x3, x4)) h1)
                  go_wp2_with fail
                  go_roundw
                  case rel => exact ⟨j + 1, by omega, by rw [HS.out, HV.out]; rfl, by go_num, HBN.out⟩
                  case measure => simp [intOf]; omega
            · have hjp : j = p := by omega
              have HIT := Lib.hid (show ((L.take j).any fun y => insB y ((x1, x2), x3, x4)) = true by rw [hjp, ← HP.out, List.take_length]; exact HIN.out)
              rw [HIT.out]
              have HB4 := Lib.hid (below_self HB2.out hb)
              clear hjp hb
              go_wp2_with fail
              go_roundw
              case rel => exact ⟨k + 1, by omega, by go_num, HB4.out⟩
              case measure => simp [intOf]; omega
        · have HB5 := Lib.hid (below_self HB.out hb)
          clear hb
          go_wp2_with fail
          refine (awakeCl_any wr).mono ?_
          rintro e w4 ⟨rfl, hb4⟩
          have hb6 := below_self HB5.out hb4
          go_wp2_with fail
          go_ret
          exact ⟨rfl, hb6⟩
  · have hno : b = false ∨ b = true ∧ 60 < n ∨ b = true ∧ n ≤ 60 ∧ 60 < m := by
      cases b
      · exact .inl rfl
      · by_cases h1 : n ≤ 60
        · exact .inr (.inr ⟨rfl, h1, Int.not_le.1 fun h2 => hgo ⟨rfl, h1, h2⟩⟩)
        · exact .inr (.inl ⟨rfl, Int.not_le.1 h1⟩)
    clear hgo HW
    rcases hno with rfl | ⟨rfl, h1⟩ | ⟨rfl, h1, h2⟩
    all_goals
      go_wp2_with fail
      refine (awakeCl_any w1).mono ?_
      rintro e w2 ⟨rfl, hb2⟩
      have hb3 := below_self hb1 hb2
      go_wp2_with fail
      go_ret
      exact ⟨rfl, hb3⟩
end Go.Proofs.Ytnmefomipldalaa
