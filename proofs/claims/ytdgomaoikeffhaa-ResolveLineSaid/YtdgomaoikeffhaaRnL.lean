/- naskhref27's Line, walked. -/
import Derived.Test.YtdgomaoikeffhaaRnE
import Derived.Test.YtdgomaoikeffhaaStL
import Derived.Test.YtdgomaoikeffhaaHp
namespace Go.Proofs.Ytdgomaoikeffhaa
open Go.RowKit

/-- The levels of a part as a line; nothing where there is no such part. -/
def lineA (cs ls : List Int) (s : Sp) (base : Int) : List Int := if cs.length = ls.length ∧ 0 ≤ s.1 ∧ s.1 < s.2 ∧ s.2 ≤ ls.length then lineF base (partF cs s.1.toNat s.2.toNat) (partF ls s.1.toNat s.2.toNat) else []
theorem lineA_no {cs ls : List Int} {s : Sp} {base : Int} (h : ¬ (cs.length = ls.length ∧ 0 ≤ s.1 ∧ s.1 < s.2 ∧ s.2 ≤ ls.length)) : lineA cs ls s base = [] := if_neg h
theorem partF_len (l : List Int) (lo hi : Nat) (h : hi ≤ l.length) : (partF l lo hi).length = hi - lo := by simp [partF]; omega
/-- A line as it grows. -/
theorem line_snoc (base : Int) {hi : Nat} : ∀ {m : Nat} {cs ls : List Int} {lo : Nat}, hi ≤ cs.length → hi ≤ ls.length → lo + m < hi → ∀ x, ls[lo + m]? = some x → (lineF base (partF cs lo hi) (partF ls lo hi)).take (m + 1) = (lineF base (partF cs lo hi) (partF ls lo hi)).take m ++ [if endsF (partF cs (lo + m) hi) = true then base else x] := by
  intro m cs ls lo h1 h2 h3 x hx
  obtain ⟨c, hc⟩ : ∃ c, cs[lo + m]? = some c := ⟨_, List.getElem?_eq_getElem (by omega)⟩
  have e1 : (partF cs lo hi)[m]? = some c := by unfold partF; rw [List.getElem?_take, if_pos (by omega), List.getElem?_drop, hc]
  have e2 : (partF ls lo hi)[m]? = some x := by unfold partF; rw [List.getElem?_take, if_pos (by omega), List.getElem?_drop, hx]
  have e3 : (partF cs lo hi).drop m = partF cs (lo + m) hi := by unfold partF; rw [List.drop_take, List.drop_drop, show hi - lo - m = hi - (lo + m) by omega]
  have := lineF_get base e1 e2
  rw [e3] at this
  rw [List.take_add_one, this]
  rfl
set_option maxRecDepth 100000 in
set_option maxHeartbeats 4000000 in
theorem rnLine_any (A B : Option Addr) (n c m d : Nat) (cs ls : List Int) (x y base : Int) (w : World) (hr : Rd w 1 A n (cs.map (Value.int .i64))) (hs : Rd w 1 B m (ls.map (Value.int .i64))) (hn : n ≤ 100000) (hm : m ≤ 100000) :
    Calls Try.prog 10 #[.slice A n c, .slice B m d, .agg #[.int .i64 x, .int .i64 y], .int .i64 base] w fun e w' => ∃ v, e = .returned v ∧ w'.ownsRow w.heap.size 3 1 v (lineA cs ls (x, y) base).length ((lineA cs ls (x, y) base).map (Value.int .i64)) ∧ Below w.heap.size w w' := by
  have hl : cs.length = n := by simpa using hr.len1
  have hl2 : ls.length = m := by simpa using hs.len1
  have hb := below_new w (.cells #[.int .i64 x, .int .i64 y] 24)
  have hrd := hr.below hb
  have hsd := hs.below hb
  have hbx := heap_alloc_new w (.cells #[.int .i64 x, .int .i64 y] 24)
  have HL := Lib.hid hl
  have HL2 := Lib.hid hl2
  obtain ⟨wo, hwo⟩ : ∃ wo, w.alloc (.cells #[.int .i64 x, .int .i64 y] 24) = wo := ⟨_, rfl⟩
  rw [hwo] at hbx hb hrd hsd
  obtain ⟨bx, hbe⟩ : ∃ bx, w.heap.size = bx := ⟨_, rfl⟩
  rw [hbe] at hbx
  have c1 := hp_cell (j := 0) hbx rfl
  have c2 := hp_cell (j := 1) hbx rfl
  have HWO := Lib.hid hwo
  have HBE := Lib.hid hbe
  have HB := Lib.hid hb
  have HR := Lib.hid hrd
  have HS := Lib.hid hsd
  clear hr hs hl hl2 hbx hwo hbe hrd hsd hb
  by_cases hok : n = m ∧ 0 ≤ x ∧ x < y ∧ y ≤ m
  · obtain ⟨rfl, hx0, hxy, hyn⟩ := hok
    obtain ⟨lo, rfl⟩ : ∃ lo : Nat, x = (lo : Int) := ⟨x.toNat, by omega⟩
    obtain ⟨hi, rfl⟩ : ∃ hi : Nat, y = (hi : Int) := ⟨y.toNat, by omega⟩
    have HA := Lib.hid (show lineA cs ls ((lo : Int), (hi : Int)) base = lineF base (partF cs lo hi) (partF ls lo hi) by unfold lineA; rw [if_pos (by rw [HL.out, HL2.out]; exact ⟨rfl, hx0, hxy, hyn⟩)]; simp)
    have HLN := Lib.hid (show (lineF base (partF cs lo hi) (partF ls lo hi)).length = hi - lo by rw [lineF_len _ _ _ (by rw [partF_len _ _ _ (by rw [HL.out]; omega), partF_len _ _ _ (by rw [HL2.out]; omega)]), partF_len _ _ _ (by rw [HL2.out]; omega)])
    have d1 : decide ((lo : Int) < 0) = false := decide_eq_false (by omega)
    have d2 : decide ((hi : Int) ≤ (lo : Int)) = false := decide_eq_false (by omega)
    have d3 : decide ((n : Int) < (hi : Int)) = false := decide_eq_false (by omega)
    have d4 : decide (hi ≤ lo) = false := decide_eq_false (by omega)
    have d5 : decide (n < hi) = false := decide_eq_false (by omega)
    go_enter Try.func10, Try.ntmps10
    go_wp2
    rw [HBE.out, HWO.out]
    go_loopw [9, 10] (fun v i wr => ∃ p : Nat, lo ≤ p ∧ p ≤ hi ∧ i = .int .i64 (p : Int) ∧ wr.ownsRow wo.heap.size 3 1 v (p - lo) (((lineF base (partF cs lo hi) (partF ls lo hi)).take (p - lo)).map (Value.int .i64)) ∧ Below wo.heap.size wo wr) (fun _ i _ => hi - (intOf i).toNat)
    case atStart => exact ⟨lo, Nat.le_refl _, by omega, rfl, by rw [Nat.sub_self]; exact ⟨rfl, .inl ⟨rfl, rfl⟩⟩, Below.refl _ _⟩
    case round =>
      obtain ⟨p, hp1, hp2, rfl, hO, hlow⟩ := hrel
      have HO := Lib.hid hO
      have HLOW := Lib.hid hlow
      have e2 := cell_below hlow c2
      clear hO hlow
      by_cases hlt : p < hi
      · obtain ⟨z, hz⟩ : ∃ z, ls[p]? = some z := ⟨_, List.getElem?_eq_getElem (by rw [HL2.out]; omega)⟩
        obtain ⟨bd, rfl, hbb, hbcell⟩ := HS.out.at_ (show p < n by omega)
        have cz0 : wo.cell? (bd.add p) = some (.int .i64 z) := hbcell _ (by rw [List.getElem?_map, hz]; rfl)
        have HCZ := Lib.hid cz0
        have HSN := Lib.hid (line_snoc base (m := p - lo) (cs := cs) (ls := ls) (lo := lo) (hi := hi) (by rw [HL.out]; omega) (by rw [HL2.out]; omega) (by omega) z (by rw [show lo + (p - lo) = p by omega]; exact hz))
        rw [show lo + (p - lo) = p by omega, show p - lo + 1 = p + 1 - lo by omega] at HSN
        obtain ⟨b, hbv⟩ : ∃ b, endsF (partF cs p hi) = b := ⟨_, rfl⟩
        have HEN := Lib.hid (rnEnds_any A n c p hi cs wr (HR.out.below HLOW.out) hn (by omega) (by omega) b hbv)
        rw [hbv] at HSN
        have hpn : (p : Int) < (n : Int) := by omega
        have hph : (p : Int) < (hi : Int) := by omega
        have hp0 : (0 : Int) ≤ (p : Int) := by omega
        have hp5 : (p : Int) ≤ 100000 := by omega
        have hsz := HLOW.out.size
        clear hz hbcell cz0 hbv
        cases b with
        | true =>
          rw [if_pos rfl] at HSN
          go_wp2_with (first
            | (go_at_call 24; refine HEN.out.mono ?_; rintro e w2 ⟨rfl, q, hw2⟩; have HO2 := Lib.hid (own_below HO.out (drewBelow q)); have HLW2 := Lib.hid (below_drew HLOW.out q); have hsz2 := HLW2.out.size; rw [← hw2] at HO2 HLW2 hsz2; clear hw2)
            | (at_builtin; refine wpList_app rfl _ _ _ rfl intSliceM (by decide) _ (p - lo) _ rfl (HO2.out.alloc _) ⟨w2.heap.size, 0, none⟩ 1 1 [.int .i64 base] rfl rfl (cells_new w2 [.int .i64 base] 3) (oneInt _ _) (by omega) (by unfold maxLen; omega) (Nat.le_trans hsz2 (by simp)) ?_; intro v1 w3 hown3 hg3 hat3)
            | fail)
          have HO3 : Hid (w3.ownsRow wo.heap.size 3 1 v1 (p + 1 - lo) (((lineF base (partF cs lo hi) (partF ls lo hi)).take (p + 1 - lo)).map (Value.int .i64))) := Lib.hid (by rw [HSN.out, List.map_append, show p + 1 - lo = p - lo + 1 by omega]; exact hown3)
          have HB3 := Lib.hid (below_app ((HLW2.out).alloc hsz2 _) hg3 (HO2.out.alloc _) (Nat.le_trans hsz2 (by simp)))
          clear hown3 hg3 hat3
          go_roundw
          case rel => exact ⟨p + 1, by omega, by omega, by go_num, HO3.out, HB3.out⟩
          case measure => simp [intOf]; omega
        | false =>
          rw [if_neg (by decide)] at HSN
          go_wp2_with (first
            | (go_at_call 24; refine HEN.out.mono ?_; rintro e w2 ⟨rfl, q, hw2⟩; have HO2 := Lib.hid (own_below HO.out (drewBelow q)); have HLW2 := Lib.hid (below_drew HLOW.out q); have hsz2 := HLW2.out.size; rw [← hw2] at HO2 HLW2 hsz2; clear hw2; have cz := cell_below HLW2.out HCZ.out)
            | (at_builtin; refine wpList_app rfl _ _ _ rfl intSliceM (by decide) _ (p - lo) _ rfl (HO2.out.alloc _) ⟨w2.heap.size, 0, none⟩ 1 1 [.int .i64 z] rfl rfl (cells_new w2 [.int .i64 z] 3) (oneInt _ _) (by omega) (by unfold maxLen; omega) (Nat.le_trans hsz2 (by simp)) ?_; intro v1 w3 hown3 hg3 hat3)
            | fail)
          have HO3 : Hid (w3.ownsRow wo.heap.size 3 1 v1 (p + 1 - lo) (((lineF base (partF cs lo hi) (partF ls lo hi)).take (p + 1 - lo)).map (Value.int .i64))) := Lib.hid (by rw [HSN.out, List.map_append, show p + 1 - lo = p - lo + 1 by omega]; exact hown3)
          have HB3 := Lib.hid (below_app ((HLW2.out).alloc hsz2 _) hg3 (HO2.out.alloc _) (Nat.le_trans hsz2 (by simp)))
          clear hown3 hg3 hat3
          go_roundw
          case rel => exact ⟨p + 1, by omega, by omega, by go_num, HO3.out, HB3.out⟩
          case measure => simp [intOf]; omega
      · obtain rfl : p = hi := by omega
        have HZ := Lib.hid (show (lineF base (partF cs lo p) (partF ls lo p)).take (p - lo) = lineF base (partF cs lo p) (partF ls lo p) from List.take_of_length_le (by rw [HLN.out]; omega))
        rw [HZ.out] at HO
        have HF := Lib.hid (own_base HO.out (show w.heap.size ≤ wo.heap.size from HB.out.size))
        have HG := Lib.hid (HB.out.trans (HLOW.out.mono HB.out.size))
        go_wp2
        go_ret
        exact ⟨_, rfl, by rw [HA.out, HLN.out]; exact HF.out, HG.out⟩
  · have HA := Lib.hid (show lineA cs ls (x, y) base = [] from lineA_no (by rw [HL.out, HL2.out]; exact hok))
    have HN : Hid (∀ w' : World, w'.ownsRow w.heap.size 3 1 (.slice none 0 0) (lineA cs ls (x, y) base).length ((lineA cs ls (x, y) base).map (Value.int .i64))) := Lib.hid fun w' => by rw [HA.out]; exact ⟨rfl, .inl ⟨rfl, rfl⟩⟩
    clear HA
    by_cases hnm : n = m
    · subst hnm
      by_cases hx : x < 0
      · have d1 : decide (x < 0) = true := decide_eq_true hx
        clear hok
        go_enter Try.func10, Try.ntmps10
        go_wp2
        rw [HWO.out]
        go_ret
        exact ⟨_, rfl, HN.out _, HB.out⟩
      · have d1 : decide (x < 0) = false := decide_eq_false hx
        by_cases hxy : y ≤ x
        · have d2 : decide (y ≤ x) = true := decide_eq_true hxy
          clear hok
          go_enter Try.func10, Try.ntmps10
          go_wp2
          rw [HWO.out]
          go_ret
          exact ⟨_, rfl, HN.out _, HB.out⟩
        · have d2 : decide (y ≤ x) = false := decide_eq_false hxy
          have d3 : decide ((n : Int) < y) = true := decide_eq_true (by omega)
          clear hok
          go_enter Try.func10, Try.ntmps10
          go_wp2
          rw [HWO.out]
          go_ret
          exact ⟨_, rfl, HN.out _, HB.out⟩
    · have g : ((n : Int) != (m : Int)) = true := by simp; omega
      clear hok
      go_enter Try.func10, Try.ntmps10
      go_wp2
      rw [HWO.out]
      go_ret
      exact ⟨_, rfl, HN.out _, HB.out⟩
end Go.Proofs.Ytdgomaoikeffhaa
