/- The reference's mirrored codes, walked. -/
import Derived.BigQuiet
import Derived.Test.YtbnjflkafdkcpaaPrRm
import Derived.Test.YtbnjflkafdkcpaaStL
import Derived.Test.YtbnjflkafdkcpaaMem3
namespace Go.Proofs.Ytbnjflkafdkcpaa
open Go.RowKit

/-- A code of a level, mirrored. -/
def mrV (c lev : Int) : Int := if lev % 2 = 0 then c else mirF c
def mrF (cs lv : List Int) : List Int := if cs.length = lv.length then List.zipWith mrV cs lv else []
/-- How many are another one then. -/
def mrN (cs lv : List Int) : Nat → Int
  | 0 => 0
  | k + 1 => if (mrF cs lv).getD k 0 = cs.getD k 0 then mrN cs lv k else mrN cs lv k + 1
theorem mrF_len {cs lv : List Int} (h : cs.length = lv.length) : (mrF cs lv).length = cs.length := by
  unfold mrF
  rw [if_pos h, List.length_zipWith]
  omega
theorem mrF_at {cs lv : List Int} (h : cs.length = lv.length) {k : Nat} {c x : Int} (hc : cs[k]? = some c) (hx : lv[k]? = some x) : (mrF cs lv)[k]? = some (mrV c x) := by
  unfold mrF
  rw [if_pos h, List.getElem?_zipWith, hc, hx]
theorem mrN_in (cs lv : List Int) : ∀ k, 0 ≤ mrN cs lv k ∧ mrN cs lv k ≤ k
  | 0 => by simp [mrN]
  | k + 1 => by
    have := mrN_in cs lv k
    rw [mrN]
    split <;> omega
/-- Mirrored twice they are as they were. -/
theorem mr_back {cs lv : List Int} (h : cs.length = lv.length) : mrF (mrF cs lv) lv = cs := by
  apply List.ext_getElem?
  intro k
  by_cases hk : k < cs.length
  · have hc : cs[k]? = some cs[k] := List.getElem?_eq_getElem hk
    have hx : lv[k]? = some lv[k] := List.getElem?_eq_getElem (by omega)
    rw [mrF_at (by rw [mrF_len h]; exact h) (mrF_at h hc hx) hx, hc]
    unfold mrV
    split
    · rfl
    · rw [mirF_back]
  · rw [List.getElem?_eq_none (by rw [mrF_len (by rw [mrF_len h]; exact h), mrF_len h]; omega), List.getElem?_eq_none (by omega)]
set_option maxRecDepth 100000 in
set_option maxHeartbeats 1500000 in
theorem rmCodes_any (A B : Option Addr) (n c m d : Nat) (cs lv : List Int) (w : World) (hr : Rd w 1 A n (cs.map (Value.int .i64))) (hs : Rd w 1 B m (lv.map (Value.int .i64))) (hn : n ≤ 100000) :
    Calls Try.prog 21 #[.slice A n c, .slice B m d] w fun e w' => ∃ v, e = .returned v ∧ w'.ownsRow w.heap.size 3 1 v (mrF cs lv).length ((mrF cs lv).map (Value.int .i64)) ∧ Below w.heap.size w w' := by
  have hcl : cs.length = n := by simpa using hr.len1
  have hll : lv.length = m := by simpa using hs.len1
  have HCL := Lib.hid hcl
  have HLL := Lib.hid hll
  have HR := Lib.hid hr
  have HS := Lib.hid hs
  clear hcl hll hr hs
  go_enter Try.func21, Try.ntmps21
  by_cases hnm : n = m
  · subst hnm
    have HE := Lib.hid (show cs.length = lv.length by rw [HCL.out, HLL.out])
    have HML := Lib.hid (show (mrF cs lv).length = n by rw [mrF_len HE.out, HCL.out])
    go_wp2_with fail
    go_loopw [5, 6] (fun v i wr => ∃ k : Nat, k ≤ n ∧ i = .int .i64 (k : Int) ∧ wr.ownsRow w.heap.size 3 1 v k (((mrF cs lv).take k).map (Value.int .i64)) ∧ Below w.heap.size w wr) (fun _ i _ => n - (intOf i).toNat)
    case atStart => exact ⟨0, Nat.zero_le _, rfl, ⟨rfl, .inl ⟨rfl, rfl⟩⟩, Below.refl _ _⟩
    case round =>
      obtain ⟨k, hk, rfl, ho, hb⟩ := hrel
      have HO := Lib.hid ho
      have HB := Lib.hid hb
      by_cases hlt : k < n
      · obtain ⟨x, hx⟩ : ∃ x, cs[k]? = some x := ⟨_, List.getElem?_eq_getElem (by rw [HCL.out]; exact hlt)⟩
        obtain ⟨y, hy⟩ : ∃ y, lv[k]? = some y := ⟨_, List.getElem?_eq_getElem (by rw [HLL.out]; exact hlt)⟩
        obtain ⟨ad, rfl, _, hcell⟩ := (HR.out.below hb).at_ hlt
        obtain ⟨bd, rfl, _, hbcell⟩ := (HS.out.below hb).at_ hlt
        have cx := hcell (.int .i64 x) (by rw [List.getElem?_map, hx]; rfl)
        have cy := hbcell (.int .i64 y) (by rw [List.getElem?_map, hy]; rfl)
        have hat := mrF_at HE.out hx hy
        have hki : (k : Int) < (n : Int) := by omega
        obtain ⟨r, hr⟩ : ∃ r, y.tmod 2 = r := ⟨_, rfl⟩
        have hrz : r = 0 ↔ y % 2 = 0 := by
          rw [← hr]
          constructor
          · intro h; have := Int.dvd_of_tmod_eq_zero h; omega
          · intro h; exact Int.tmod_eq_zero_of_dvd (by omega)
        have HTK := fun v (hv : mrV x y = v) => Lib.hid (show (mrF cs lv).take (k + 1) = (mrF cs lv).take k ++ [v] by rw [List.take_add_one, hat, hv]; rfl)
        clear hx hy hcell hbcell ho hb
        by_cases hr0 : r = 0
        · have HT := HTK x (by unfold mrV; rw [if_pos (hrz.1 hr0)])
          subst hr0
          clear HTK hrz hat
          go_wp2_with (first
            | (at_builtin; refine wpList_app rfl _ _ _ rfl intSliceM (by decide) _ k _ rfl (HO.out.alloc _) ⟨wr.heap.size, 0, none⟩ 1 1 [.int .i64 x] rfl rfl (cells_new wr [_] _) (oneInt _ _) (by omega) (by unfold maxLen; omega) (Nat.le_trans HB.out.size (by simp)) ?_; intro v1 w1 o1 g1 t1)
            | fail)
          have HB1 := Lib.hid (below_app (HB.out.alloc HB.out.size (.cells #[.int .i64 x] 3)) g1 (HO.out.alloc _) (Nat.le_trans HB.out.size (by simp)))
          have HO1 : Hid (w1.ownsRow w.heap.size 3 1 v1 (k + 1) (((mrF cs lv).take (k + 1)).map (Value.int .i64))) := Lib.hid (by rw [HT.out, List.map_append]; exact o1)
          clear o1 g1 t1
          go_roundw
          case rel => exact ⟨k + 1, by omega, by go_num, HO1.out, HB1.out⟩
          case measure => simp [intOf]; omega
        · have HT := HTK (mirF x) (by unfold mrV; rw [if_neg (fun h => hr0 (hrz.2 h))])
          have gr : (r != 0) = true := by simp [hr0]
          clear HTK hrz hat hr0
          go_wp2_with (first
            | (go_at_call 38; refine (refMirror_any x _).mono ?_; rintro e2 w2 ⟨rfl, hb2⟩; have HB2 := Lib.hid (below_self HB.out hb2); have HO2 := Lib.hid (own_below HO.out hb2); clear hb2)
            | (at_builtin; refine wpList_app rfl _ _ _ rfl intSliceM (by decide) _ k _ rfl (HO2.out.alloc _) ⟨w2.heap.size, 0, none⟩ 1 1 [.int .i64 (mirF x)] rfl rfl (cells_new w2 [_] _) (oneInt _ _) (by omega) (by unfold maxLen; omega) (Nat.le_trans HB2.out.size (by simp)) ?_; intro v1 w1 o1 g1 t1)
            | fail)
          have HB1 := Lib.hid (below_app (HB2.out.alloc HB2.out.size (.cells #[.int .i64 (mirF x)] 3)) g1 (HO2.out.alloc _) (Nat.le_trans HB2.out.size (by simp)))
          have HO1 : Hid (w1.ownsRow w.heap.size 3 1 v1 (k + 1) (((mrF cs lv).take (k + 1)).map (Value.int .i64))) := Lib.hid (by rw [HT.out, List.map_append]; exact o1)
          clear o1 g1 t1
          go_roundw
          case rel => exact ⟨k + 1, by omega, by go_num, HO1.out, HB1.out⟩
          case measure => simp [intOf]; omega
      · obtain rfl : k = n := by omega
        have HT := Lib.hid (show (mrF cs lv).take k = mrF cs lv from List.take_of_length_le (by rw [HML.out]; exact Nat.le_refl _))
        go_wp2
        go_ret
        refine ⟨_, rfl, ?_, HB.out⟩
        rw [HML.out, ← HT.out]
        exact HO.out
  · have hne : ((n : Int) != (m : Int)) = true := by simp; omega
    have HM := Lib.hid (show mrF cs lv = [] by unfold mrF; rw [if_neg (by rw [HCL.out, HLL.out]; exact hnm)])
    go_wp2
    go_ret
    exact ⟨_, rfl, by rw [HM.out]; exact ⟨rfl, .inl ⟨rfl, rfl⟩⟩, Below.refl _ _⟩
set_option maxRecDepth 100000 in
set_option maxHeartbeats 1500000 in
theorem rmCount_any (A B : Option Addr) (n c m d : Nat) (cs lv : List Int) (w : World) (hr : Rd w 1 A n (cs.map (Value.int .i64))) (hs : Rd w 1 B m (lv.map (Value.int .i64))) (hn : n ≤ 100000) :
    Calls Try.prog 23 #[.slice A n c, .slice B m d] w fun e w' => e = .returned (.int .i64 (mrN cs lv (mrF cs lv).length)) ∧ Below w.heap.size w w' := by
  have hcl : cs.length = n := by simpa using hr.len1
  have hml : (mrF cs lv).length ≤ n := by
    unfold mrF
    split
    · rw [List.length_zipWith]; omega
    · simp
  have HC := Lib.hid (rmCodes_any A B n c m d cs lv w hr hs hn)
  obtain ⟨L, hL⟩ : ∃ L, mrF cs lv = L := ⟨_, rfl⟩
  obtain ⟨p, hp⟩ : ∃ p, L.length = p := ⟨_, rfl⟩
  rw [hL] at HC hml ⊢
  rw [hp] at HC hml ⊢
  have HL := Lib.hid hL
  have HP := Lib.hid hp
  have HCL := Lib.hid hcl
  have HR := Lib.hid hr
  clear hr hs hL hp hcl
  go_enter Try.func23, Try.ntmps23
  go_wp2_with (first
    | (go_at_call 21; with_reducible refine HC.out.mono ?_; rintro e1 w1 ⟨v1, rfl, hv1, hb1⟩; obtain ⟨V, cv, hve, _⟩ := own_form hv1; subst hve; have HV := Lib.hid (Rd.of_own hv1); have HB := Lib.hid hb1; have HR1 := Lib.hid (HR.out.below hb1); clear hv1 hb1)
    | fail)
  go_loopw [5, 7] (fun s i wr => ∃ k q : Nat, k ≤ p ∧ i = .int .i64 (k : Int) ∧ s = .int .i64 (mrN cs lv k) ∧ wr = w1.drewN q) (fun _ i _ => p - (intOf i).toNat)
  case atStart => exact ⟨0, 0, Nat.zero_le _, rfl, rfl, rfl⟩
  case round =>
    obtain ⟨k, q, hk, rfl, rfl, rfl⟩ := hrel
    have hin := mrN_in cs lv k
    obtain ⟨s, hs⟩ : ∃ s, mrN cs lv k = s := ⟨_, rfl⟩
    rw [hs] at hin ⊢
    have HSN := Lib.hid hs
    clear hs
    by_cases hlt : k < p
    · obtain ⟨x, hx⟩ : ∃ x, L[k]? = some x := ⟨_, List.getElem?_eq_getElem (by rw [HP.out]; exact hlt)⟩
      obtain ⟨y, hy⟩ : ∃ y, cs[k]? = some y := ⟨_, List.getElem?_eq_getElem (by rw [HCL.out]; omega)⟩
      have hxd : L.getD k 0 = x := by rw [List.getD_eq_getElem?_getD, hx]; rfl
      have hyd : cs.getD k 0 = y := by rw [List.getD_eq_getElem?_getD, hy]; rfl
      obtain ⟨ad, rfl, _, hcell⟩ := HV.out.at_ hlt
      obtain ⟨bd, rfl, _, hbcell⟩ := HR1.out.at_ (show k < n by omega)
      have cx := hcell (.int .i64 x) (by rw [List.getElem?_map, hx]; rfl)
      have cy := hbcell (.int .i64 y) (by rw [List.getElem?_map, hy]; rfl)
      have hki : (k : Int) < (p : Int) := by omega
      have hkn : (k : Int) < (n : Int) := by omega
      have HN := Lib.hid (show mrN cs lv (k + 1) = if x = y then s else s + 1 by rw [mrN, HL.out, hxd, hyd, HSN.out])
      clear hx hy hxd hyd hcell hbcell
      by_cases hxy : x = y
      · subst hxy
        rw [if_pos rfl] at HN
        have g : (x != x) = false := by simp
        go_wp2
        go_quiet (fail)
        go_wp2
        go_roundw
        case rel => exact ⟨k + 1, _, by omega, by go_num, by rw [HN.out], rfl⟩
        case measure => simp [intOf]; omega
      · rw [if_neg hxy] at HN
        have g : (x != y) = true := by simp [hxy]
        clear hxy
        go_wp2
        go_quiet (fail)
        go_wp2
        go_roundw
        case rel => exact ⟨k + 1, _, by omega, by go_num, by rw [HN.out], rfl⟩
        case measure => simp [intOf]; omega
    · obtain rfl : k = p := by omega
      go_wp2
      go_ret
      exact ⟨by rw [HSN.out]; rfl, below_drewN HB.out _⟩
end Go.Proofs.Ytbnjflkafdkcpaa
