/- The reference's index: New, Codes, Units, Span, Code and Break. -/
import Derived.Test.YtpllgonjhljjkaaIdxP1
import Derived.Test.YtpllgonjhljjkaaSpHasR
import Derived.Test.YtpllgonjhljjkaaSpBlk
namespace Go.Proofs.Ytpllgonjhljjkaa
open Go.RowKit

/-- At address ⟨b, 0⟩ lies the reference's index of these sizes. -/
def IdrAt (w : World) (b : Nat) (l : List Int) : Prop :=
  ∃ A c, w.cell? ⟨b, 0, none⟩ = some (.slice A l.length c) ∧ Rd w 1 A l.length (l.map (Value.int .i64))
theorem IdrAt.below {w w' : World} {b : Nat} {l : List Int} (h : IdrAt w b l) (hb : Below w.heap.size w w') : IdrAt w' b l := by
  obtain ⟨A, c, h1, h2⟩ := h
  exact ⟨A, c, cell_below hb h1, h2.below hb⟩
/-- What the reference's New hands back. -/
def NewrGives (w : World) (l : List Int) (e : Ending) (w' : World) : Prop :=
  (errX l ≠ 0 ∧ e = .returned (.tuple #[.pointer none, .int .i64 (errX l)]) ∧ Below w.heap.size w w') ∨
  (errX l = 0 ∧ ∃ b, e = .returned (.tuple #[.pointer (some ⟨b, 0, none⟩), .int .i64 0]) ∧ IdrAt w' b l ∧ Below w.heap.size w w')

set_option maxRecDepth 100000 in
set_option maxHeartbeats 2000000 in
theorem refNewX_any (A : Option Addr) (n c : Nat) (l : List Int) (w : World) (hr : Rd w 1 A n (l.map (Value.int .i64))) (hn : n ≤ maxLen) :
    Calls Try.prog 15 #[.slice A n c] w (NewrGives w l) := by
  have hlen : l.length = n := by simpa using hr.len1
  have HL := Lib.hid hlen
  have HR := Lib.hid hr
  clear hlen
  unfold maxLen at hn
  go_enter Try.func15, Try.ntmps15
  go_wp2
  go_loop [5] (fun i => ∃ (k : Nat), k ≤ n ∧ i = .int .i64 k ∧ Ones (l.take k)) (fun i => n - (intOf i).toNat)
  case atStart => exact ⟨0, Nat.zero_le _, rfl, fun s hs => by simp at hs⟩
  case round =>
    obtain ⟨k, hk, rfl, ho⟩ := hrel
    have HO := Lib.hid ho
    clear ho
    by_cases hlt : k < n
    · obtain ⟨s, hsk⟩ : ∃ s, l[k]? = some s := ⟨_, List.getElem?_eq_getElem (by rw [HL.out]; exact hlt)⟩
      obtain ⟨ad, rfl, _, hc⟩ := hr.at_ hlt
      have cs : w.cell? (ad.add k) = some (.int .i64 s) := hc _ (by rw [List.getElem?_map, hsk]; rfl)
      have HS := Lib.hid hsk
      clear hsk hc
      by_cases hs : s < 1
      · have HE := Lib.hid (errX_bad (List.mem_of_getElem? HS.out) hs)
        go_wp2
        go_ret2
        exact .inl ⟨by rw [HE.out]; decide, by rw [HE.out]; rfl, Below.refl _ _⟩
      · have HX := Lib.hid (ones_snoc HO.out HS.out (by omega))
        go_wp2
        go_round
        case rel => exact ⟨k + 1, by omega, by go_num, HX.out⟩
        case measure => simp [intOf]; omega
    · have ho : Ones l := by have := HO.out; rwa [List.take_of_length_le (by rw [HL.out]; omega)] at this
      have HOL := Lib.hid ho
      have HF := Lib.hid (errX_ones ho)
      clear ho HO
      go_wp2
      clear hlt hk
      go_loop [4, 6] (fun a i => ∃ (k : Nat) (x : Int), k ≤ n ∧ i = .int .i64 k ∧ a = .int .i64 x ∧ 0 ≤ x ∧ x ≤ 16777216 ∧ longB 16777216 l = longB (16777216 - x) (l.drop k)) (fun _ i => n - (intOf i).toNat)
      case atStart => exact ⟨0, 0, Nat.zero_le _, rfl, rfl, by omega, by omega, rfl⟩
      case round =>
        obtain ⟨k, x, hk, rfl, rfl, h0, h1, hp⟩ := hrel
        have HP := Lib.hid hp
        clear hp
        by_cases hlt : k < n
        · obtain ⟨s, hsk⟩ : ∃ s, l[k]? = some s := ⟨_, List.getElem?_eq_getElem (by rw [HL.out]; exact hlt)⟩
          obtain ⟨ad, rfl, _, hc⟩ := hr.at_ hlt
          have cs : w.cell? (ad.add k) = some (.int .i64 s) := hc _ (by rw [List.getElem?_map, hsk]; rfl)
          have hs1 := HOL.out s (List.mem_of_getElem? hsk)
          have HD := Lib.hid (longB_step hsk (16777216 - x))
          clear hsk hc
          by_cases hgt : 16777216 - x < s
          · have HE := Lib.hid (show errX l = 6 by rw [HF.out, HP.out, HD.out, if_pos hgt]; rfl)
            go_wp2
            go_ret2
            exact .inl ⟨by rw [HE.out]; decide, by rw [HE.out]; rfl, Below.refl _ _⟩
          · have HX := Lib.hid (show longB 16777216 l = longB (16777216 - (x + s)) (l.drop (k + 1)) by rw [HP.out, HD.out, if_neg hgt, Int.sub_sub])
            go_wp2
            go_round
            case rel => exact ⟨k + 1, x + s, by omega, by go_num, rfl, by omega, by omega, HX.out⟩
            case measure => simp [intOf]; omega
        · have HE := Lib.hid (show errX l = 0 by rw [HF.out, HP.out, List.drop_eq_nil_of_le (by rw [HL.out]; omega)]; rfl)
          have hg := good_len (errX_ok HE.out)
          rw [HL.out] at hg
          go_wp2_with (at_builtin; refine wpList_appR rfl _ _ _ rfl intSlice (by decide) _ 0 [] rfl (World.ownsRow_nil w w.heap.size _ _) A n c (l.map (Value.int .i64)) rfl HR.out (oneInts _ _) (by omega) (by unfold maxLen; omega) (Nat.le_refl _) ?_; intro v1 w1 hown1 hg1 hat1; clear hat1; simp only [Nat.zero_add, List.nil_append] at hown1; obtain ⟨A1, c1, rfl, hc1⟩ := own_form hown1)
          have hb1 := below_make (w := w) (w' := w1) hg1
          have hb2 := hb1.alloc hb1.size (.cells #[.slice A1 n c1] 84)
          have HI := Lib.hid (show IdrAt (w1.alloc (.cells #[.slice A1 n c1] 84)) w1.heap.size l from
            ⟨A1, c1, by rw [World.cell?_alloc_at _ _ _ _ rfl, HL.out]; rfl, by rw [HL.out]; exact (Rd.of_own hown1).alloc _⟩)
          go_ret2
          exact .inr ⟨HE.out, _, rfl, HI.out, hb2⟩

section
variable (b : Nat) (l : List Int) (w : World)
set_option maxRecDepth 100000 in
theorem refCodesX_any (h : IdrAt w b l) : Calls Try.prog 24 #[.pointer (some ⟨b, 0, none⟩)] w fun e w' => e = .returned (.int .i64 l.length) ∧ w = w' := by
  obtain ⟨A, c, h1, h2⟩ := h
  clear h2
  go_enter Try.func24, Try.ntmps24
  go_wp2
  go_ret
  exact ⟨rfl, rfl⟩
set_option maxRecDepth 100000 in
set_option maxHeartbeats 1000000 in
theorem refUnitsX_any (hg : Good l) (h : IdrAt w b l) : Calls Try.prog 26 #[.pointer (some ⟨b, 0, none⟩)] w fun e w' => e = .returned (.int .i64 l.sum) ∧ w = w' := by
  obtain ⟨A, c, h1, hr⟩ := h
  have hlen := good_len hg
  have HG := Lib.hid hg
  clear hg
  go_enter Try.func26, Try.ntmps26
  go_wp2
  go_loop [3, 4] (fun n i => ∃ k : Nat, k ≤ l.length ∧ i = .int .i64 k ∧ n = .int .i64 (pre l k)) (fun _ i => l.length - (intOf i).toNat)
  case atStart => exact ⟨0, Nat.zero_le _, rfl, by rw [pre_zero]⟩
  case round =>
    obtain ⟨k, hk, rfl, rfl⟩ := hrel
    have p0 := pre_bd HG.out k
    by_cases hlt : k < l.length
    · obtain ⟨s, hsk⟩ : ∃ s, l[k]? = some s := ⟨_, List.getElem?_eq_getElem hlt⟩
      obtain ⟨ad, rfl, _, hc⟩ := hr.at_ hlt
      have cs : w.cell? (ad.add k) = some (.int .i64 s) := hc _ (by rw [List.getElem?_map, hsk]; rfl)
      have p1 := pre_bd HG.out (k + 1)
      have hs := pre_succ hsk
      rw [hs] at p1
      have HS := Lib.hid hs
      clear hsk hc hs
      go_wp2
      go_round
      case rel => exact ⟨k + 1, by omega, by go_num, by rw [HS.out]⟩
      case measure => simp [intOf]; omega
    · have HK := Lib.hid (show pre l k = l.sum by rw [← pre_len]; congr 1; omega)
      go_wp2
      go_ret
      exact ⟨retI HK.out, rfl⟩
end
end Go.Proofs.Ytpllgonjhljjkaa
