/- wide.Decode and its reference hand back the same codes: decW of the units. -/
import Derived.Test.YtoopchpolcfdaaaDoorDecW
namespace Go.Proofs.YtoopchpolcfdaaaDoor
open Go.RowKit

theorem unit_at {us : List Int} (hu : ∀ x ∈ us, Unit16 x) {k : Nat} {x : Int} (h : us[k]? = some x) : 0 ≤ x ∧ x ≤ 65535 := hu x (List.mem_of_getElem? h)

theorem first_any (A : Option Addr) (n c : Nat) (us : List Int) (w : World) (hr : Rd w 1 A n (us.map (Value.int .u16))) (hu : ∀ x ∈ us, Unit16 x) (hn : 0 < n) (hm : n ≤ maxLen) :
    Calls Tryd.prog 38 #[.slice A n c] w fun e w' => e = .returned (.tuple #[.int .i64 (firstW us).1, .int .i64 ((firstW us).2 : Nat)]) ∧ w = w' := by
  have hlen : us.length = n := by simpa using hr.len1
  obtain ⟨ad, rfl, hb, hc⟩ := hr.2 hn
  match us, hlen with
  | [], hlen => exact absurd hlen (by simp; omega)
  | [x], hlen =>
    simp at hlen
    subst hlen
    obtain ⟨hx0, hx1⟩ := hu x (by simp)
    have h0 := hc 0 (.int .u16 x) rfl
    by_cases hs : x < 55296 ∨ 56320 ≤ x
    · exact first_solo ad 1 c x w (by omega) hx0 hx1 hs h0
    · exact first_last ad c x w (by omega) (by omega) h0
  | x :: y :: r, hlen =>
    simp at hlen
    obtain ⟨hx0, hx1⟩ := hu x (by simp)
    obtain ⟨hy0, hy1⟩ := hu y (by simp)
    have h0 := hc 0 (.int .u16 x) rfl
    have h1 := hc 1 (.int .u16 y) rfl
    by_cases hs : x < 55296 ∨ 56320 ≤ x
    · have ho : opensW x y = false := decide_eq_false (by omega)
      have := first_solo ad n c x w (by omega) hx0 hx1 hs h0
      simpa [firstW, ho] using this
    · by_cases hy : 56320 ≤ y ∧ y ≤ 57343
      · have ho : opensW x y = true := decide_eq_true (by omega)
        have := first_pair ad n c x y w (by omega) hm (by omega) (by omega) hy.1 hy.2 h0 h1
        simpa [firstW, ho] using this
      · have ho : opensW x y = false := decide_eq_false (by omega)
        have := first_unpair ad n c x y w (by omega) hm (by omega) (by omega) (by omega) hy0 hy1 h0 h1
        simpa [firstW, ho] using this

theorem firstW_le (us : List Int) (h : us ≠ []) : 1 ≤ (firstW us).2 ∧ (firstW us).2 ≤ us.length := by
  match us, h with
  | [x], _ => simp [firstW]
  | x :: y :: r, _ =>
    by_cases ho : opensW x y = true <;> simp [firstW, ho]

theorem decW_len (us : List Int) : (decW us).length ≤ us.length := by
  fun_induction decW us <;> simp <;> omega

def lenOfV : Value → Nat | .slice _ n _ => n | _ => 0

set_option maxHeartbeats 1000000 in
theorem decode_any (A : Option Addr) (n c : Nat) (us : List Int) (w : World) (hr : Rd w 1 A n (us.map (Value.int .u16))) (hu : ∀ x ∈ us, Unit16 x) (hm : n ≤ 16777216) (hc : n ≤ c) :
    Calls Tryd.prog 16 #[.slice A n c] w fun e w' => ∃ v, e = .returned v ∧ w'.ownsRow w.heap.size 3 1 v (decW us).length ((decW us).map (Value.int .i64)) ∧ Below w.heap.size w w' := by
  go_enter Tryd.func16, Tryd.ntmps16
  go_wp2_with (at_make; refine wpList_mk rfl _ _ _ rfl intSlice (base := w.heap.size) _ n rfl rfl rfl (by omega) (by unfold maxLen; omega) (Nat.le_refl _) ?_; intro v0 w0 hown0 hg0)
  have hb0 : Below w.heap.size w w0 := (Below.refl _ _).grown hg0 (Nat.le_refl _) (fun k hk => by cases hk)
  go_loopw [0, 3] (fun u v wr => ∃ (A' : Option Addr) (m c' : Nat) (us' acc : List Int), u = .slice A' m c' ∧ m ≤ c' ∧ Rd w 1 A' m (us'.map (Value.int .u16)) ∧ (∀ x ∈ us', Unit16 x) ∧ wr.ownsRow w.heap.size 3 1 v acc.length (acc.map (Value.int .i64)) ∧ acc.length + m ≤ n ∧ decW us = acc ++ decW us' ∧ Below w.heap.size w wr) (fun u _ _ => lenOfV u)
  case atStart => exact ⟨A, n, c, us, [], rfl, hc, hr, hu, by simpa using hown0, by simp, by simp, hb0⟩
  case round =>
    obtain ⟨A', m, c', us', acc, rfl, hmc, hr', hu', hown, hle, hd, hb⟩ := hrel
    have hlen : us'.length = m := by simpa using hr'.len1
    have HD := Lib.hid hd
    have HL := Lib.hid hlen
    clear hd hlen
    by_cases hpos : 0 < m
    · have hne : us' ≠ [] := by intro e; have := HL.out; simp [e] at this; omega
      have hf := firstW_le us' hne
      rw [HL.out] at hf
      obtain ⟨hf1, hf2⟩ := hf
      have HS := Lib.hid (decW_step us' hne)
      clear hne
      go_wp2_with (first
        | (go_at_call 38; refine (first_any A' m c' us' _ (hr'.below hb) hu' hpos (by unfold maxLen; omega)).mono ?_; rintro e w' ⟨rfl, rfl⟩)
        | (at_builtin; refine wpList_app rfl _ _ _ rfl intSlice (by decide) u3 acc.length _ rfl (hown.alloc _) ⟨wr.heap.size, 0, none⟩ 1 1 [.int .i64 (firstW us').1] rfl rfl (cell_one_new _ _ _) (oneInt _ _) (by omega) (by unfold maxLen; omega) (Nat.le_trans hb.size (by simp)) ?_; intro v1 w1 hown1 hg1 hat1))
      have hcut := hr'.cut (k := (firstW us').2) (cap := c') hf2 hmc
      have hgr := below_app (hb.alloc hb.size _) hg1 (hown.alloc _) (Nat.le_trans hb.size (by simp))
      go_roundw
      case rel =>
        refine ⟨_, _, _, us'.drop (firstW us').2, acc ++ [(firstW us').1], rfl, by omega, ?_, fun x hx => hu' x (List.mem_of_mem_drop hx), ?_, by simp; omega, ?_, hgr⟩
        · simpa using hcut
        · simpa using hown1
        · rw [HD.out, HS.out]; simp
      case measure => simp [lenOfV]; omega
    · have h0 : us' = [] := List.eq_nil_of_length_eq_zero (by rw [HL.out]; omega)
      subst h0
      have HN := Lib.hid (show decW us = acc by rw [HD.out]; simp [decW])
      go_wp2
      go_ret
      exact ⟨u3, rfl, by rw [HN.out]; exact hown, hb⟩
end Go.Proofs.YtoopchpolcfdaaaDoor
