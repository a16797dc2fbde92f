/- The reference's Inverse, Apply, walked. -/
import Derived.Test.YtbnjflkafdkcpaaRoP
namespace Go.Proofs.Ytbnjflkafdkcpaa
open Go.RowKit

theorem nodup_small : ∀ {n : Nat} {l : List Nat}, l.Nodup → (∀ x ∈ l, x < n) → l.length ≤ n
  | 0, [], _, _ => Nat.le_refl 0
  | 0, x :: l, _, h => absurd (h x (by simp)) (by omega)
  | n + 1, l, hn, h => by
    have h1 := nodup_small (n := n) (l := l.erase n) (hn.erase n) (fun x hx => by
      have := (hn.mem_erase_iff).1 hx
      have := h x this.2
      omega)
    have : l.length ≤ (l.erase n).length + 1 := by
      rw [List.length_erase]
      split <;> omega
    omega
theorem perm_of {l : List Nat} (hn : l.Nodup) (h : ∀ x ∈ l, x < l.length) : l.Perm (List.range l.length) := by
  refine (List.perm_ext_iff_of_nodup hn List.nodup_range).2 fun x => ?_
  rw [List.mem_range]
  refine ⟨h x, fun hx => ?_⟩
  refine Decidable.byContradiction fun hc => ?_
  have := nodup_small (n := l.length) (l := x :: l) (List.nodup_cons.2 ⟨hc, hn⟩) (fun y hy => by
    rcases List.mem_cons.1 hy with rfl | hy
    · exact hx
    · exact h y hy)
  simp at this
  omega
def natL (o : List Int) : List Nat := o.map Int.toNat
theorem natL_len (o : List Int) : (natL o).length = o.length := by simp [natL]
theorem natL_perm {o : List Int} (h : permB o = true) : (natL o).Perm (List.range o.length) := by
  have h := of_decide_eq_true h
  have := perm_of (l := natL o) (by
    unfold natL
    rw [List.Nodup, List.pairwise_map]
    exact List.Pairwise.imp_of_mem (fun {a b} ha hb hne e => hne (by
      have := h.1 a ha
      have := h.1 b hb
      omega)) h.2) (fun x hx => by
    rw [natL_len]
    obtain ⟨y, hy, rfl⟩ := List.mem_map.1 hx
    have := h.1 y hy
    omega)
  rwa [natL_len] at this
theorem natL_at {o : List Int} {k : Nat} {x : Int} (h : permB o = true) (hx : o[k]? = some x) : ∃ y : Nat, x = (y : Int) ∧ y < o.length ∧ (natL o)[k]? = some y := by
  have h := (of_decide_eq_true h).1 x (List.mem_of_getElem? hx)
  exact ⟨x.toNat, by omega, by omega, by unfold natL; rw [List.getElem?_map, hx]; rfl⟩
/-- Where each place is seen; what is wrong. -/
def invE (o : List Int) : List Int × Int := if permB o = true then ((invF (natL o)).map fun i => ((i : Nat) : Int), 0) else ([], 13)
def appE (o l : List Int) : List Int × Int := if permB o = true ∧ o.length = l.length then ((natL o).map fun i => l.getD i 0, 0) else ([], 13)
theorem inv_end {o zs : List Int} (h : permB o = true) (hl : zs.length = o.length) (hz : ∀ (j x : Nat), (natL o)[j]? = some x → zs[x]? = some (j : Int)) : zs = (invF (natL o)).map fun i => ((i : Nat) : Int) := by
  have hp := natL_perm h
  apply List.ext_getElem?
  intro x
  by_cases hx : x < o.length
  · have hx2 : x < (invF (natL o)).length := by rw [invF_len, natL_len]; exact hx
    have e := at_inv hp (List.getElem?_eq_getElem hx2)
    rw [hz _ _ e, List.getElem?_map, List.getElem?_eq_getElem hx2]
    rfl
  · rw [List.getElem?_eq_none (by omega), List.getElem?_eq_none (by rw [List.length_map, invF_len, natL_len]; omega)]
set_option maxRecDepth 100000 in
set_option maxHeartbeats 2000000 in
theorem roInverse_any (A : Option Addr) (n c : Nat) (o : List Int) (w : World) (hr : Rd w 1 A n (o.map (Value.int .i64))) (hn : n ≤ 100000) :
    Calls Try.prog 17 #[.slice A n c] w fun e w' => ∃ v, e = .returned (.tuple #[v, .int .i64 (invE o).2]) ∧ w'.ownsRow w.heap.size 3 1 v (invE o).1.length ((invE o).1.map (Value.int .i64)) ∧ Below w.heap.size w w' := by
  have hl : o.length = n := by simpa using hr.len1
  have HL := Lib.hid hl
  have HR := Lib.hid hr
  have HP := Lib.hid (roPermutes_any A n c o w hr hn)
  clear hl hr
  obtain ⟨b, hb⟩ : ∃ b, permB o = b := ⟨_, rfl⟩
  rw [hb] at HP
  cases b with
  | false =>
    have HE := Lib.hid (show invE o = ([], 13) by unfold invE; rw [if_neg (by rw [hb]; decide)])
    rw [HE.out]
    clear hb HE
    go_enter Try.func17, Try.ntmps17
    go_wp2_with (first
      | (go_at_call 29; refine HP.out.mono ?_; rintro e w1 ⟨rfl, hb1⟩)
      | fail)
    go_ret2
    exact ⟨_, rfl, ⟨rfl, .inl ⟨rfl, rfl⟩⟩, hb1⟩
  | true =>
    have HPB := Lib.hid hb
    have HE := Lib.hid (show invE o = ((invF (natL o)).map fun i => ((i : Nat) : Int), 0) by unfold invE; rw [if_pos hb])
    have HLE := Lib.hid (show ((invF (natL o)).map fun i => ((i : Nat) : Int)).length = n by rw [List.length_map, invF_len, natL_len, HL.out])
    rw [HE.out]
    clear hb HE
    go_enter Try.func17, Try.ntmps17
    go_wp2_with (first
      | (go_at_call 29; refine HP.out.mono ?_; rintro e w0 ⟨rfl, hb0⟩)
      | (refine wpList_mkFull rfl _ _ _ rfl (base := w0.heap.size) (e := 3) (bytes := 8) (z := .int .i64 0) Try.underlying22 (by kernel_rfl) rfl (n : Int) (n : Int) n rfl rfl rfl rfl (by omega) (by unfold maxLen; omega) (Nat.le_refl _) ?_; intro w1 hown1 hg1)
      | fail)
    obtain ⟨g, hg⟩ : ∃ g, w0.heap.size = g := ⟨_, rfl⟩
    have HM0 : Hid (w1.ownsRow w.heap.size 3 1 (.slice (some ⟨g, 0, none⟩) n n) n ((List.replicate n (0 : Int)).map (Value.int .i64))) := Lib.hid (by rw [List.map_replicate, ← hg]; exact own_base hown1 hb0.size)
    have HB0 := Lib.hid (hb0.trans ((below_make hg1).mono hb0.size))
    rw [hg]
    clear hown1 hg1 hb0 hg
    go_wp2_with fail
    go_loopw [5] (fun i wr => ∃ (k : Nat) (zs : List Int), k ≤ n ∧ i = .int .i64 (k : Int) ∧ zs.length = n ∧ (∀ j x : Nat, j < k → (natL o)[j]? = some x → zs[x]? = some (j : Int)) ∧ wr.ownsRow w.heap.size 3 1 (.slice (some ⟨g, 0, none⟩) n n) n (zs.map (Value.int .i64)) ∧ Below w.heap.size w wr) (fun i _ => n - (intOf i).toNat)
    case atStart => exact ⟨0, _, Nat.zero_le _, rfl, List.length_replicate .., fun j x h => by omega, HM0.out, HB0.out⟩
    case round =>
      obtain ⟨k, zs, hk, rfl, hzl, hz, hO, hb⟩ := hrel
      have HZL := Lib.hid hzl
      have HZ := Lib.hid hz
      have HO := Lib.hid hO
      have HB := Lib.hid hb
      clear hzl hz hO hb
      by_cases hlt : k < n
      · obtain ⟨x, hx⟩ : ∃ x, o[k]? = some x := ⟨_, List.getElem?_eq_getElem (by rw [HL.out]; exact hlt)⟩
        obtain ⟨ad, rfl, hab, hcell⟩ := (HR.out.below HB.out).at_ hlt
        have cx : wr.cell? (ad.add k) = some (.int .i64 x) := hcell _ (by rw [List.getElem?_map, hx]; rfl)
        obtain ⟨y, rfl, hyl, hny⟩ := natL_at HPB.out hx
        rw [HL.out] at hyl
        have hkn : (k : Int) < (n : Int) := by omega
        have hk0 : (0 : Int) ≤ (k : Int) := by omega
        have hk5 : (k : Int) ≤ 100000 := by omega
        have hyn : (y : Int) < (n : Int) := by omega
        have hy0 : (0 : Int) ≤ (y : Int) := by omega
        obtain ⟨⟨u, cu⟩, fu⟩ := own_slot HO.out (j := y) (by omega)
        have HN := Lib.hid (show ∀ j x : Nat, j < k + 1 → (natL o)[j]? = some x → (zs.set y (k : Int))[x]? = some (j : Int) by
          intro j x hj hjx
          by_cases hjk : j = k
          · rw [hjk] at hjx ⊢
            rw [hny] at hjx
            obtain rfl := Option.some.inj hjx
            rw [List.getElem?_set_self (by rw [HZL.out]; exact hyl)]
          · have hne : y ≠ x := by
              intro e
              subst e
              have h1 := posF_at (perm_nodup (natL_perm HPB.out)) hjx
              have h2 := posF_at (perm_nodup (natL_perm HPB.out)) hny
              omega
            rw [List.getElem?_set_ne hne]
            exact HZ.out j x (by omega) hjx)
        have HO2 := Lib.hid ((HO.out.stored y (.int .i64 (k : Int))).1)
        have HB2 := Lib.hid (HB.out.setCell (p := ⟨g, y, none⟩) (HO.out.lt g rfl).1 (.int .i64 (k : Int)))
        clear hx hcell hny
        go_wp2
        go_roundw
        case rel => exact ⟨k + 1, zs.set y (k : Int), by omega, by go_num, by rw [List.length_set]; exact HZL.out, HN.out, by rw [List.map_set]; exact HO2.out, HB2.out⟩
        case measure => simp [intOf]; omega
      · obtain rfl : k = n := by omega
        have HT := Lib.hid (inv_end HPB.out (by rw [HZL.out, HL.out]) (fun j x hx => HZ.out j x (by have := (List.getElem?_eq_some_iff.1 hx).1; rw [natL_len, HL.out] at this; exact this) hx))
        rw [HT.out] at HO
        go_wp2
        go_ret2
        exact ⟨_, rfl, by rw [HLE.out]; exact HO.out, HB.out⟩
end Go.Proofs.Ytbnjflkafdkcpaa
