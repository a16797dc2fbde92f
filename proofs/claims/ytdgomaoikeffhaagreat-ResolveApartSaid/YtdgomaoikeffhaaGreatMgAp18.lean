/- Texts of one claim, one behind the other. -/
import Derived.Shelf.Abstract
import Derived.Laws.ResultCell
import Derived.Test.YtdgomaoikeffhaaGreatMgAp1
import Derived.Test.YtdgomaoikeffhaaGreatMgAp2
import Derived.Test.YtdgomaoikeffhaaGreatMgAp3
import Derived.Test.YtdgomaoikeffhaaGreatMgAp4
import Derived.Test.YtdgomaoikeffhaaGreatMgAp5
/- Pairs: the given lists, the closures, slices.IndexFunc over pairs, the project's find. -/
namespace Go.Proofs.YtdgomaoikeffhaaGreat
open Go.RowKit
theorem opens_any (c : Int) (w : World) : Calls Tryz.prog 110 #[.int .i64 c] w fun e w' => (∃ b, e = .returned (.func (.func 121) #[] #[.pointer (some ⟨b, 0, none⟩)]) ∧ w'.cell? ⟨b, 0, none⟩ = some (.int .i64 c)) ∧ Below w.heap.size w w' := by
  go_enter Tryz.func110, Tryz.ntmps110
  go_wp2
  go_ret
  exact ⟨⟨_, rfl, by rw [World.cell?_alloc_at _ _ _ _ rfl]; rfl⟩, below_new _ _⟩
theorem closes_any (c : Int) (w : World) : Calls Tryz.prog 112 #[.int .i64 c] w fun e w' => (∃ b, e = .returned (.func (.func 123) #[] #[.pointer (some ⟨b, 0, none⟩)]) ∧ w'.cell? ⟨b, 0, none⟩ = some (.int .i64 c)) ∧ Below w.heap.size w w' := by
  go_enter Tryz.func112, Tryz.ntmps112
  go_wp2
  go_ret
  exact ⟨⟨_, rfl, by rw [World.cell?_alloc_at _ _ _ _ rfl]; rfl⟩, below_new _ _⟩
set_option maxRecDepth 100000 in
theorem opensLit_any (c x y : Int) (b : Nat) (w : World) (hc : w.cell? ⟨b, 0, none⟩ = some (.int .i64 c)) :
    Calls Tryz.prog 121 #[.agg #[.int .i64 x, .int .i64 y], .pointer (some ⟨b, 0, none⟩)] w fun e w' => e = .returned (.bool (opP c (x, y))) ∧ Below w.heap.size w w' := by
  have hc' := cell_below (below_new w (.cells #[.int .i64 x, .int .i64 y] 128)) hc
  by_cases h : x = c
  · have HF := Lib.hid (show opP c (x, y) = true by simp [opP, h])
    subst h
    go_enter Tryz.func121, Tryz.ntmps121
    go_wp2
    go_ret
    exact ⟨retB (by simp [HF.out]), below_new _ _⟩
  · have HF := Lib.hid (show opP c (x, y) = false by simp [opP, h])
    have h' : (x == c) = false := by simp [h]
    clear h
    go_enter Tryz.func121, Tryz.ntmps121
    go_wp2
    go_ret
    exact ⟨by rw [HF.out]; first | rfl | simp [h'], below_new _ _⟩
set_option maxRecDepth 100000 in
theorem closesLit_any (c x y : Int) (b : Nat) (w : World) (hc : w.cell? ⟨b, 0, none⟩ = some (.int .i64 c)) :
    Calls Tryz.prog 123 #[.agg #[.int .i64 x, .int .i64 y], .pointer (some ⟨b, 0, none⟩)] w fun e w' => e = .returned (.bool (clP c (x, y))) ∧ Below w.heap.size w w' := by
  have hc' := cell_below (below_new w (.cells #[.int .i64 x, .int .i64 y] 128)) hc
  by_cases h : y = c
  · have HF := Lib.hid (show clP c (x, y) = true by simp [clP, h])
    subst h
    go_enter Tryz.func123, Tryz.ntmps123
    go_wp2
    go_ret
    exact ⟨retB (by simp [HF.out]), below_new _ _⟩
  · have HF := Lib.hid (show clP c (x, y) = false by simp [clP, h])
    have h' : (y == c) = false := by simp [h]
    clear h
    go_enter Tryz.func123, Tryz.ntmps123
    go_wp2
    go_ret
    exact ⟨by rw [HF.out]; first | rfl | simp [h'], below_new _ _⟩

/-- What IndexFunc tells. -/
def FirstAt (P : Sp → Bool) (l : List Sp) (r : Int) : Prop := (r = -1 ∧ hitP P l = (0, 0, false)) ∨ ∃ k s, r = (k : Nat) ∧ l[k]? = some s ∧ hitP P l = (s.1, s.2, true)
theorem hit_first {P : Sp → Bool} {l : List Sp} {k : Nat} {s : Sp} (hk : l[k]? = some s) (hs : P s = true) (hno : ∀ t ∈ l.take k, P t = false) : hitP P l = (s.1, s.2, true) := by
  have h : l.find? P = some s := by
    rw [List.find?_eq_some_iff_append]
    refine ⟨hs, l.take k, l.drop (k + 1), ?_, fun a ha => by rw [hno a ha]; rfl⟩
    rw [← dropCons hk, List.take_append_drop]
  unfold hitP
  rw [h]
set_option maxRecDepth 100000 in
set_option maxHeartbeats 1000000 in
theorem indexFuncQ_any (P : Sp → Bool) (g : FuncId) (lb : Array Value) (eg : ∀ args w, (callFunc g args).run Tryz.prog w = .ok (.enter g args) w) (A : Option Addr) (n c : Nat) (l : List Sp) (w : World)
    (hr : Rd w 2 A n (cellsS l)) (hn : n ≤ maxLen)
    (hcl : ∀ lo hi W, Below w.heap.size w W → Calls Tryz.prog g (#[.agg #[.int .i64 lo, .int .i64 hi]] ++ lb) W fun e W' => e = .returned (.bool (P (lo, hi))) ∧ Below W.heap.size W W') :
    Calls Tryz.prog 120 #[.slice A n c, .func (.func g) #[] lb] w fun e w' => (∃ r, e = .returned (.int .i64 r) ∧ FirstAt P l r) ∧ Below w.heap.size w w' := by
  have hlen : l.length = n := by have := hr.1; rw [cellsS_len] at this; omega
  have HL := Lib.hid hlen
  have HC := Lib.hid hcl
  clear hlen hcl
  unfold maxLen at hn
  go_enter Tryz.func120, Tryz.ntmps120
  go_wp2
  go_loopw [8] (fun i wr => ∃ k : Nat, k ≤ n ∧ i = .int .i64 k ∧ (∀ s ∈ l.take k, P s = false) ∧ Below w.heap.size w wr) (fun i _ => n - (intOf i).toNat)
  case atStart => exact ⟨0, Nat.zero_le _, rfl, by simp, Below.refl _ _⟩
  case round =>
    obtain ⟨k, hk, rfl, hno, hb⟩ := hrel
    have HN := Lib.hid hno
    clear hno
    by_cases hlt : k < n
    · obtain ⟨s, hsk⟩ : ∃ s, l[k]? = some s := ⟨_, List.getElem?_eq_getElem (by rw [HL.out]; exact hlt)⟩
      obtain ⟨ad, rfl, hab, c1, c2⟩ := (hr.below hb).span hsk
      obtain ⟨lo, hi⟩ := s
      simp only at c1 c2
      have HS := Lib.hid hsk
      clear hsk
      have hcall := HC.out lo hi wr hb
      cases hh : P (lo, hi) with
      | true =>
        have HF := Lib.hid (show FirstAt P l k from .inr ⟨k, _, rfl, HS.out, hit_first HS.out hh HN.out⟩)
        rw [hh] at hcall
        clear hh
        go_wp2_with (go_at_fn g; refine hcall.mono ?_; rintro e w1 ⟨rfl, hb1⟩; have hb2 := hb.trans (hb1.mono hb.size))
        go_ret
        exact ⟨⟨_, rfl, HF.out⟩, hb2⟩
      | false =>
        have HX := Lib.hid (show ∀ t ∈ l.take (k + 1), P t = false by
          intro t ht
          rw [List.take_add_one, HS.out] at ht
          simp at ht
          rcases ht with ht | rfl
          · exact HN.out t ht
          · exact hh)
        rw [hh] at hcall
        clear hh
        go_wp2_with (go_at_fn g; refine hcall.mono ?_; rintro e w1 ⟨rfl, hb1⟩; have hb2 := hb.trans (hb1.mono hb.size))
        go_roundw
        case rel => exact ⟨k + 1, by omega, by go_num, HX.out, hb2⟩
        case measure => simp [intOf]; omega
    · have HF := Lib.hid (show FirstAt P l (-1) from .inl ⟨rfl, hit_none (by have := HN.out; rwa [List.take_of_length_le (by rw [HL.out]; omega)] at this)⟩)
      go_wp2
      go_ret
      exact ⟨⟨_, rfl, HF.out⟩, hb⟩
end Go.Proofs.YtdgomaoikeffhaaGreat
/- The project's find of pairs. -/
namespace Go.Proofs.YtdgomaoikeffhaaGreat
open Go.RowKit

theorem below_setQ {w wr : World} {b : Nat} (h : Below w.heap.size w wr) (hb : w.heap.size ≤ b) (j : Nat) (u : Value) : Below w.heap.size w (wr.setCell ⟨b, j, none⟩ u) :=
  ⟨h.os, h.tape, h.output, by simpa [World.setCell] using h.size, fun i hi => (Below.heap_setCell wr ⟨b, j, none⟩ u i (by simp only; omega)).trans (h.block i hi)⟩
set_option maxRecDepth 100000 in
set_option maxHeartbeats 1000000 in
theorem find_any (P : Sp → Bool) (x y : Int) (ok : Bool) (g : FuncId) (lb : Array Value) (eg : ∀ args w, (callFunc g args).run Tryz.prog w = .ok (.enter g args) w) (A : Option Addr) (n c : Nat) (l : List Sp) (w : World)
    (ht : hitP P l = (x, y, ok)) (hr : Rd w 2 A n (cellsS l)) (hn : n ≤ maxLen)
    (hcl : ∀ lo hi W, Below w.heap.size w W → Calls Tryz.prog g (#[.agg #[.int .i64 lo, .int .i64 hi]] ++ lb) W fun e W' => e = .returned (.bool (P (lo, hi))) ∧ Below W.heap.size W W') :
    Calls Tryz.prog 109 #[.slice A n c, .func (.func g) #[] lb] w fun e w' => e = .returned (.tuple #[.agg #[.int .i64 x, .int .i64 y], .bool ok]) ∧ Below w.heap.size w w' := by
  have hlen : l.length = n := by have := hr.1; rw [cellsS_len] at this; omega
  have HL := Lib.hid hlen
  have HT := Lib.hid ht
  have hb0 := below_new w (.cells #[.int .i64 0, .int .i64 0] 128)
  have HC := Lib.hid (indexFuncQ_any P g lb eg A n c l (w.alloc (.cells #[.int .i64 0, .int .i64 0] 128)) (hr.below hb0) hn (fun lo hi W hb => hcl lo hi W (below_self hb0 hb)))
  clear hlen ht hcl
  unfold maxLen at hn
  go_enter Tryz.func109, Tryz.ntmps109
  go_wp2_with fail
  refine HC.out.mono ?_
  rintro e w1 ⟨⟨r, rfl, hf⟩, hb⟩
  have d0 : w1.cell? ⟨w.heap.size, 0, none⟩ = some (.int .i64 0) := cell_below hb (by rw [World.cell?_alloc_at _ _ _ _ rfl]; rfl)
  have d1 : w1.cell? ⟨w.heap.size, 1, none⟩ = some (.int .i64 0) := cell_below hb (by rw [World.cell?_alloc_at _ _ _ _ rfl]; rfl)
  have hnf : ∀ i, w1.frozen? ⟨w.heap.size, i, none⟩ = false := fun i => (hb.frozen (by simp)).trans (by simp [go_sem])
  have f0 := hnf 0
  have f1 := hnf 1
  have hb1 := below_self hb0 hb
  have hlt : w.heap.size < w1.heap.size := cell_lt d0
  obtain ⟨b, hbe⟩ : ∃ b, w.heap.size = b := ⟨_, rfl⟩
  rcases hf with ⟨rfl, hh⟩ | ⟨k, s, rfl, hk, hh⟩
  · have HH := hh.symm.trans HT.out
    simp only [Prod.mk.injEq] at HH
    obtain ⟨rfl, rfl, rfl⟩ := HH
    clear hh HT HC hbe
    go_wp2
    (try simp only [Exit.inBlock, Exit.then])
    refine bodyPost_ret (v := .tuple #[.agg #[.int .i64 0, .int .i64 0], .bool false]) ?_ rfl ⟨rfl, ?_⟩
    · rw [results_cell_tmp rfl]
      go_simp
    · exact below_setQ (below_setQ hb1 (Nat.le_refl _) _ _) (Nat.le_refl _) _ _
  · have HH := hh.symm.trans HT.out
    have hkn : k < n := by have := (List.getElem?_eq_some_iff.1 hk).1; rw [HL.out] at this; exact this
    obtain ⟨ad, rfl, hab, c1, c2⟩ := (hr.below hb1).span hk
    obtain ⟨lo, hi⟩ := s
    simp only at c1 c2 HH
    simp only [Prod.mk.injEq] at HH
    obtain ⟨rfl, rfl, rfl⟩ := HH
    clear hh hk HT HC hbe
    go_wp2
    (try simp only [Exit.inBlock, Exit.then])
    refine bodyPost_ret (v := .tuple #[.agg #[.int .i64 lo, .int .i64 hi], .bool true]) ?_ rfl ⟨rfl, ?_⟩
    · rw [results_cell_tmp rfl]
      go_simp
    · exact below_setQ (below_setQ hb1 (Nat.le_refl _) _ _) (Nat.le_refl _) _ _
end Go.Proofs.YtdgomaoikeffhaaGreat
/- The project's Canon, Mirror, Bracket and Match of codes. -/
namespace Go.Proofs.YtdgomaoikeffhaaGreat
open Go.RowKit
theorem eg_opens : ∀ args w, (callFunc 121 args).run Tryz.prog w = .ok (.enter 121 args) w := enters_of Tryz.func121 (by kernel_rfl) rfl
theorem eg_closes : ∀ args w, (callFunc 123 args).run Tryz.prog w = .ok (.enter 123 args) w := enters_of Tryz.func123 (by kernel_rfl) rfl
/-- find with opens(c). -/
theorem findOp_any (x y : Int) (ok : Bool) (q : Int) (b : Nat) (A : Option Addr) (n c : Nat) (l : List Sp) (w : World) (ht : hitP (opP q) l = (x, y, ok)) (hc : w.cell? ⟨b, 0, none⟩ = some (.int .i64 q)) (hr : Rd w 2 A n (cellsS l)) (hn : n ≤ maxLen) :
    Calls Tryz.prog 109 #[.slice A n c, .func (.func 121) #[] #[.pointer (some ⟨b, 0, none⟩)]] w fun e w' => e = .returned (.tuple #[.agg #[.int .i64 x, .int .i64 y], .bool ok]) ∧ Below w.heap.size w w' :=
  find_any (opP q) x y ok _ _ eg_opens A n c l w ht hr hn (fun lo hi W hb => opensLit_any q lo hi b W (cell_below hb hc))
theorem findCl_any (x y : Int) (ok : Bool) (q : Int) (b : Nat) (A : Option Addr) (n c : Nat) (l : List Sp) (w : World) (ht : hitP (clP q) l = (x, y, ok)) (hc : w.cell? ⟨b, 0, none⟩ = some (.int .i64 q)) (hr : Rd w 2 A n (cellsS l)) (hn : n ≤ maxLen) :
    Calls Tryz.prog 109 #[.slice A n c, .func (.func 123) #[] #[.pointer (some ⟨b, 0, none⟩)]] w fun e w' => e = .returned (.tuple #[.agg #[.int .i64 x, .int .i64 y], .bool ok]) ∧ Below w.heap.size w w' :=
  find_any (clP q) x y ok _ _ eg_closes A n c l w ht hr hn (fun lo hi W hb => closesLit_any q lo hi b W (cell_below hb hc))

set_option maxRecDepth 100000 in
set_option maxHeartbeats 1000000 in
theorem prCanon_any (q : Int) (w : World) : Calls Tryz.prog 111 #[.int .i64 q] w fun e w' => e = .returned (.int .i64 (canF q)) ∧ Below w.heap.size w w' := by
  obtain ⟨x, y, ok, h1⟩ : ∃ x y ok, hitP (opP q) aliL = (x, y, ok) := ⟨_, _, _, rfl⟩
  have HV := Lib.hid (show canF q = if ok = true then y else q by unfold canF; rw [h1])
  have H1 := Lib.hid h1
  clear h1
  go_enter Tryz.func111, Tryz.ntmps111
  go_wp2_with fail
  refine (alike_any _).mono ?_
  rintro e w1 ⟨⟨A, rfl, hr⟩, hb1⟩
  go_wp2_with fail
  refine (opens_any q _).mono ?_
  rintro e w2 ⟨⟨b, rfl, hc⟩, hb2⟩
  have HR2 := Lib.hid (hr.below hb2)
  have hb3 := below_self hb1 hb2
  clear hr hb1 hb2
  go_wp2_with fail
  refine (findOp_any x y ok q b A 2 2 aliL _ H1.out hc HR2.out (by unfold maxLen; omega)).mono ?_
  rintro e w3 ⟨rfl, hb⟩
  have hb4 := below_self hb3 hb
  clear hb hb3 hc HR2
  have hb5 := hb4.alloc hb4.size (.cells #[.int .i64 x, .int .i64 y] 128)
  cases ok <;> (go_wp2; go_ret; exact ⟨by rw [HV.out]; rfl, by first | exact hb5 | exact hb4⟩)

set_option maxRecDepth 100000 in
set_option maxHeartbeats 1000000 in
theorem prBracket_any (q p v : Int) (hv : braF q = (p, v)) (w : World) : Calls Tryz.prog 93 #[.int .i64 q] w fun e w' => e = .returned (.tuple #[.int .i64 p, .int .i64 v]) ∧ Below w.heap.size w w' := by
  obtain ⟨x, y, ok, h1⟩ : ∃ x y ok, hitP (opP q) braL = (x, y, ok) := ⟨_, _, _, rfl⟩
  obtain ⟨x', y', ok', h2⟩ : ∃ x y ok, hitP (clP q) braL = (x, y, ok) := ⟨_, _, _, rfl⟩
  have HV := Lib.hid (show (p, v) = if ok = true then (1, canF y) else if ok' = true then (2, canF q) else (0, 0) by rw [← hv]; unfold braF; rw [h1, h2])
  have H1 := Lib.hid h1
  have H2 := Lib.hid h2
  clear h1 h2 hv
  go_enter Tryz.func93, Tryz.ntmps93
  go_wp2_with fail
  refine (brackets_any _).mono ?_
  rintro e w1 ⟨⟨A, rfl, hr⟩, hb1⟩
  go_wp2_with fail
  refine (opens_any q _).mono ?_
  rintro e w2 ⟨⟨b, rfl, hc⟩, hb2⟩
  have HR2 := Lib.hid (hr.below hb2)
  have hb3 := below_self hb1 hb2
  clear hr hb1 hb2
  go_wp2_with fail
  refine (findOp_any x y ok q b A 43 43 braL _ H1.out hc HR2.out (by unfold maxLen; omega)).mono ?_
  rintro e w3 ⟨rfl, hb⟩
  have hb4 := below_self hb3 hb
  have HR3 := Lib.hid (HR2.out.below hb)
  clear hb hb3 hc HR2
  have hb5 := hb4.alloc hb4.size (.cells #[.int .i64 x, .int .i64 y] 128)
  have HR4 := Lib.hid (HR3.out.alloc (.cells #[.int .i64 x, .int .i64 y] 128))
  cases ok
  · go_wp2_with fail
    refine (closes_any q _).mono ?_
    rintro e w4 ⟨⟨b', rfl, hc⟩, hb⟩
    have hb6 := below_self hb5 hb
    have HR5 := Lib.hid (HR4.out.below hb)
    clear hb hb5 HR4
    go_wp2_with fail
    refine (findCl_any x' y' ok' q b' A 43 43 braL _ H2.out hc HR5.out (by unfold maxLen; omega)).mono ?_
    rintro e w5 ⟨rfl, hb⟩
    have hb7 := below_self hb6 hb
    clear hb hb6 hc HR5
    have hb8 := hb7.alloc hb7.size (.cells #[.int .i64 x', .int .i64 y'] 128)
    cases ok'
    · have hV := HV.out
      rw [if_neg (by decide), if_neg (by decide)] at hV
      injection hV with e1 e2
      subst e1 e2
      go_wp2
      go_ret2
      exact ⟨rfl, by first | exact hb8 | exact hb7⟩
    · have hV := HV.out
      rw [if_neg (by decide), if_pos rfl] at hV
      injection hV with e1 e2
      subst e1 e2
      go_wp2_with fail
      refine (prCanon_any q _).mono ?_
      rintro e w6 ⟨rfl, hb⟩
      have hb9 := below_self hb8 hb
      go_wp2
      go_ret2
      exact ⟨rfl, hb9⟩
  · have hV := HV.out
    rw [if_pos rfl] at hV
    injection hV with e1 e2
    subst e1 e2
    go_wp2_with fail
    refine (prCanon_any y _).mono ?_
    rintro e w6 ⟨rfl, hb⟩
    have hb9 := below_self hb5 hb
    go_wp2
    go_ret2
    exact ⟨rfl, hb9⟩
end Go.Proofs.YtdgomaoikeffhaaGreat
/- weak's steps, walked: separators, terminators. -/
namespace Go.Proofs.YtdgomaoikeffhaaGreat
open Go.RowKit

def sepF (c number : Int) : Bool := decide ((number = 3 ∧ (c = 4 ∨ c = 7)) ∨ (number = 6 ∧ c = 7))
set_option maxRecDepth 100000 in
theorem wkSep_any (c z : Int) (b : Bool) (hb : sepF c z = b) (w : World) : Calls Tryz.prog 91 #[.int .i64 c, .int .i64 z] w fun e w' => e = .returned (.bool b) ∧ w = w' := by
  unfold sepF at hb
  subst hb
  by_cases h3 : z = 3
  · subst h3
    by_cases h4 : c = 4
    · subst h4
      go_enter Tryz.func91, Tryz.ntmps91
      go_wp2; go_ret; exact ⟨rfl, rfl⟩
    · have g4 : (c == 4) = false := by simp [h4]
      by_cases h7 : c = 7
      · subst h7
        clear h4
        go_enter Tryz.func91, Tryz.ntmps91
        go_wp2; go_ret; exact ⟨rfl, rfl⟩
      · have g7 : (c == 7) = false := by simp [h7]
        have e : decide (((3 : Int) = 3 ∧ (c = 4 ∨ c = 7)) ∨ ((3 : Int) = 6 ∧ c = 7)) = false := decide_eq_false (by omega)
        rw [e]
        clear h4 h7 e
        go_enter Tryz.func91, Tryz.ntmps91
        go_wp2; go_ret; exact ⟨rfl, rfl⟩
  · have g3 : (z == 3) = false := by simp [h3]
    by_cases h6 : z = 6
    · subst h6
      obtain ⟨q, hq⟩ : ∃ q, (c == 7) = q := ⟨_, rfl⟩
      have e : decide (((6 : Int) = 3 ∧ (c = 4 ∨ c = 7)) ∨ ((6 : Int) = 6 ∧ c = 7)) = q := by
        rw [← hq]
        by_cases h : c = 7 <;> simp [h]
      rw [e]
      clear e
      go_enter Tryz.func91, Tryz.ntmps91
      go_wp2; go_ret; exact ⟨rfl, rfl⟩
    · have g6 : (z == 6) = false := by simp [h6]
      have e : decide ((z = 3 ∧ (c = 4 ∨ c = 7)) ∨ (z = 6 ∧ c = 7)) = false := decide_eq_false (by omega)
      rw [e]
      clear h3 h6 e
      go_enter Tryz.func91, Tryz.ntmps91
      go_wp2; go_ret; exact ⟨rfl, rfl⟩
theorem nk4_sep {x z : Int} (h : sepF x z = true) : nk4 z x z = z := by
  have := of_decide_eq_true h
  unfold nk4
  split
  · omega
  · split
    · rfl
    · omega
theorem nk4_not {x z : Int} (h : sepF x z = false) : nk4 z x z = x := by
  have := of_decide_eq_false h
  unfold nk4
  rw [if_neg (by omega), if_neg (by omega)]
theorem nk4_far {a x z : Int} (h : a ≠ z) : nk4 a x z = x := by
  unfold nk4
  rw [if_neg (by omega), if_neg (by omega)]
set_option maxRecDepth 100000 in
set_option maxHeartbeats 4000000 in
theorem wkSeparators_any (V : Option Addr) (n cv : Nat) (xs : List Int) (w0 w : World) (hb : Below w0.heap.size w0 w) (hown : w.ownsRow w0.heap.size 3 1 (.slice V n cv) n (xs.map (Value.int .i64))) (hn : n ≤ 1000) :
    Calls Tryz.prog 66 #[.slice V n cv] w fun e w' => WkAns w0 w' V n cv (wk4 xs) e := by
  have hlen : xs.length = n := by have := hown.1; simpa using this
  have hyl : (wk4 xs).length = n := by rw [wk4_len, hlen]
  have HAT := Lib.hid (fun k x z (h : xs[k + 1]? = some x) (h2 : xs[k + 2]? = some z) => wk4_mid h h2)
  have HA0 := Lib.hid (wk4_zero xs)
  have HAL := Lib.hid (fun k (h : xs.length = k + 1) => wk4_last h)
  obtain ⟨ys, hys⟩ : ∃ ys, wk4 xs = ys := ⟨_, rfl⟩
  rw [hys] at hyl HAT HA0 HAL ⊢
  have HL := Lib.hid hlen
  have HYL := Lib.hid hyl
  have HB := Lib.hid hb
  have HO : Hid (w.ownsRow w0.heap.size 3 1 (.slice V n cv) n ((ys.take 1 ++ xs.drop 1).map (Value.int .i64))) := Lib.hid (by
    rcases Nat.eq_zero_or_pos n with h0 | h0
    · have e1 : xs = [] := List.eq_nil_of_length_eq_zero (by omega)
      have e2 : ys = [] := List.eq_nil_of_length_eq_zero (by omega)
      subst e1 e2
      exact hown
    · obtain ⟨x, hx⟩ : ∃ x, xs[0]? = some x := ⟨_, List.getElem?_eq_getElem (by omega)⟩
      have := wmix_keep hlen hyl h0 hx (HA0.out.trans hx)
      rw [← this]
      simpa using hown)
  clear hlen hyl hys hown hb
  go_enter Tryz.func66, Tryz.ntmps66
  go_wp2_with fail
  go_loopw [2] (fun i wr => ∃ k : Nat, (k + 1 ≤ n ∨ k = 0) ∧ i = .int .i64 ((k : Int) + 1) ∧ wr.ownsRow w0.heap.size 3 1 (.slice V n cv) n ((ys.take (k + 1) ++ xs.drop (k + 1)).map (Value.int .i64)) ∧ Below w0.heap.size w0 wr) (fun i _ => n - (intOf i).toNat)
  case atStart => exact ⟨0, .inr rfl, rfl, HO.out, HB.out⟩
  case round =>
    obtain ⟨k, hk, rfl, hown, hb⟩ := hrel
    by_cases hlt : k + 2 < n
    · obtain ⟨x, hxk⟩ : ∃ x, xs[k + 1]? = some x := ⟨_, List.getElem?_eq_getElem (by rw [HL.out]; omega)⟩
      obtain ⟨z, hzk⟩ : ∃ z, xs[k + 2]? = some z := ⟨_, List.getElem?_eq_getElem (by rw [HL.out]; exact hlt)⟩
      obtain ⟨a, hak⟩ : ∃ a, ys[k]? = some a := ⟨_, List.getElem?_eq_getElem (by rw [HYL.out]; omega)⟩
      have hyk := HAT.out k x z hxk hzk
      rw [show ys.getD k 0 = a by rw [List.getD_eq_getElem?_getD, hak]; rfl] at hyk
      obtain ⟨g, rfl, hgb, hc, hf, hst⟩ := row_at hown (by omega)
      have HC := Lib.hid hc
      have c0 := hc k a (by rw [wmix_lt HYL.out (by omega) (by omega), hak])
      have c1 := hc (k + 1) x (by rw [wmix_at HYL.out (by omega) (Nat.le_refl _), hxk])
      have c2 := hc (k + 1 + 1) z (by rw [wmix_at HYL.out (by omega) (by omega), hzk])
      have HF := Lib.hid (hf (k + 1) (by omega))
      have HXK := Lib.hid hxk
      have HST := Lib.hid hst
      have HOW := Lib.hid hown
      have HB1 := Lib.hid hb
      have HYK := Lib.hid hyk
      have h1 : (k : Int) + 1 < (n : Int) := by omega
      have h2 : (k : Int) + 1 + 1 < (n : Int) := by omega
      have h3 : (k : Int) < (n : Int) := by omega
      have h0 : (0 : Int) ≤ (k : Int) := by omega
      clear hc hf hst hown hb hyk hak hxk hzk
      have hk' : k + 1 < n := by omega
      by_cases haz : a = z
      · subst haz
        have gz : (a == a) = true := by simp
        obtain ⟨b, hbs⟩ : ∃ b, sepF x a = b := ⟨_, rfl⟩
        have HC4 := Lib.hid (fun W => wkSep_any x a b hbs W)
        cases b with
        | true =>
          rw [nk4_sep hbs] at HYK
          clear hbs hk
          go_wp2_with fail
          go_quiet (fail)
          obtain ⟨W, hW⟩ : ∃ W, wr.drewN nq = W := ⟨_, rfl⟩
          have d1 : W.cell? ⟨g, k + 1, none⟩ = some (.int .i64 x) := by rw [← hW]; exact c1
          have f1 : W.frozen? ⟨g, k + 1, none⟩ = false := by rw [← hW]; exact HF.out
          have HO2 : Hid ((W.setCell ⟨g, k + 1, none⟩ (.int .i64 a)).ownsRow w0.heap.size 3 1 (.slice (some ⟨g, 0, none⟩) n cv) n ((ys.take (k + 1 + 1) ++ xs.drop (k + 1 + 1)).map (Value.int .i64))) := Lib.hid (by
            have h9 := own_below HOW.out (below_drewN (Below.refl _ _) nq)
            rw [hW] at h9
            have h8 := (h9.stored (k + 1) (.int .i64 a)).1
            rw [← List.map_set, wmix_set HL.out HYL.out hk' HYK.out] at h8
            exact h8)
          have HB2 := Lib.hid ((show Below w0.heap.size w0 W by rw [← hW]; exact below_drewN HB1.out nq).setCell (p := ⟨g, k + 1, none⟩) hgb (.int .i64 a))
          rw [hW]
          clear hW c0 c1 c2
          go_wp2_with fail
          refine (HC4.out _).mono ?_
          rintro e w2 ⟨rfl, rfl⟩
          go_wp2_with fail
          go_roundw
          case rel => exact ⟨k + 1, by omega, by go_num, HO2.out, HB2.out⟩
          case measure => simp [intOf]; omega
        | false =>
          rw [nk4_not hbs] at HYK
          clear hbs hk
          go_wp2_with fail
          go_quiet (fail)
          obtain ⟨W, hW⟩ : ∃ W, wr.drewN nq = W := ⟨_, rfl⟩
          have d1 : W.cell? ⟨g, k + 1, none⟩ = some (.int .i64 x) := by rw [← hW]; exact c1
          have HO2 : Hid (W.ownsRow w0.heap.size 3 1 (.slice (some ⟨g, 0, none⟩) n cv) n ((ys.take (k + 1 + 1) ++ xs.drop (k + 1 + 1)).map (Value.int .i64))) := Lib.hid (by
            have h9 := own_below HOW.out (below_drewN (Below.refl _ _) nq)
            rw [hW, wmix_keep HL.out HYL.out hk' HXK.out HYK.out] at h9
            exact h9)
          have HB2 := Lib.hid (show Below w0.heap.size w0 W by rw [← hW]; exact below_drewN HB1.out nq)
          rw [hW]
          clear hW c0 c1 c2
          go_wp2_with fail
          refine (HC4.out _).mono ?_
          rintro e w2 ⟨rfl, rfl⟩
          go_wp2_with fail
          go_roundw
          case rel => exact ⟨k + 1, by omega, by go_num, HO2.out, HB2.out⟩
          case measure => simp [intOf]; omega
      · have gz : (a == z) = false := by simp [haz]
        rw [nk4_far haz] at HYK
        clear haz hk
        go_wp2_with fail
        go_quiet (fail)
        obtain ⟨W, hW⟩ : ∃ W, wr.drewN nq = W := ⟨_, rfl⟩
        have HO2 : Hid (W.ownsRow w0.heap.size 3 1 (.slice (some ⟨g, 0, none⟩) n cv) n ((ys.take (k + 1 + 1) ++ xs.drop (k + 1 + 1)).map (Value.int .i64))) := Lib.hid (by
          have h9 := own_below HOW.out (below_drewN (Below.refl _ _) nq)
          rw [hW, wmix_keep HL.out HYL.out hk' HXK.out HYK.out] at h9
          exact h9)
        have HB2 := Lib.hid (show Below w0.heap.size w0 W by rw [← hW]; exact below_drewN HB1.out nq)
        rw [hW]
        clear hW c0 c1 c2
        go_wp2_with fail
        go_roundw
        case rel => exact ⟨k + 1, by omega, by go_num, HO2.out, HB2.out⟩
        case measure => simp [intOf]; omega
    · have HE : Hid (wr.ownsRow w0.heap.size 3 1 (.slice V n cv) n (ys.map (Value.int .i64))) := Lib.hid (by
        have h9 := hown
        rcases Nat.eq_zero_or_pos n with h0 | h0
        · have e1 : xs = [] := List.eq_nil_of_length_eq_zero (by rw [HL.out]; exact h0)
          have e2 : ys = [] := List.eq_nil_of_length_eq_zero (by rw [HYL.out]; exact h0)
          rw [e1, e2] at h9
          rw [e2]
          simpa using h9
        · by_cases hk2 : k + 1 = n
          · rwa [hk2, wmix_all HL.out HYL.out] at h9
          · have hk3 : k + 1 < n := by omega
            obtain ⟨x, hx⟩ : ∃ x, xs[k + 1]? = some x := ⟨_, List.getElem?_eq_getElem (by rw [HL.out]; exact hk3)⟩
            rwa [wmix_keep HL.out HYL.out hk3 hx ((HAL.out (k + 1) (by rw [HL.out]; omega)).trans hx), show k + 1 + 1 = n by omega, wmix_all HL.out HYL.out] at h9)
      have HB2 := Lib.hid hb
      have h1 : ¬ (k : Int) + 1 + 1 < (n : Int) := by omega
      clear hown hb hlt
      have hk5 : k ≤ 1000 := by omega
      go_wp2_with fail
      exact bodyPost_end (v := .tuple #[]) (by simp [results, go_sem]) rfl ⟨rfl, HE.out, HB2.out⟩
/-- The row that a closure has, and its box. -/
structure TBox (w0 w : World) (tb : Nat) (V : Option Addr) (n cv : Nat) (l : List Int) : Prop where
  box : w.heap[tb]? = some (.cells #[.slice V n cv] 22 (0, 0))
  row : w.ownsRow w0.heap.size 3 1 (.slice V n cv) n (l.map (Value.int .i64))
  low : Below w0.heap.size w0 w
  far : ∀ g, V = some ⟨g, 0, none⟩ → tb ≠ g
set_option maxRecDepth 100000 in
set_option maxHeartbeats 4000000 in
theorem wkReach_any (tb i j : Nat) (x z : Int) (V : Option Addr) (n cv : Nat) (l : List Int) (w0 w : World) (h : TBox w0 w tb V n cv l) (hi : i < n) (hj : j < n) (hx : l[i]? = some x) (hz : l[j]? = some z) (hn : n ≤ 1000) :
    Calls Tryz.prog 92 #[.int .i64 (i : Int), .int .i64 (j : Int), .pointer (some ⟨tb, 0, none⟩)] w fun e w' => e = .returned (.tuple #[]) ∧ TBox w0 w' tb V n cv (if x = 5 ∧ z = 3 then l.set i 3 else l) := by
  have HT := Lib.hid h
  obtain ⟨g, rfl, hgb, hc, hf, hst⟩ := row_at h.row (by omega)
  have cb := hp_cell (j := 0) h.box rfl
  have ci := hc i x hx
  have cj := hc j z hz
  have fi := hf i hi
  have HST := Lib.hid (hst i 3)
  have HFAR := Lib.hid (h.far g rfl)
  have h1 : (i : Int) < (n : Int) := by omega
  have h2 : (j : Int) < (n : Int) := by omega
  have h3 : (0 : Int) ≤ (i : Int) := by omega
  have h4 : (0 : Int) ≤ (j : Int) := by omega
  clear h hc hf hst hx hz
  by_cases hx : x = 5
  · subst hx
    by_cases hz : z = 3
    · subst hz
      rw [if_pos ⟨rfl, rfl⟩]
      go_enter Tryz.func92, Tryz.ntmps92
      go_wp2_with fail
      refine bodyPost_end (v := .tuple #[]) (by simp [results, go_sem]) rfl ⟨rfl, ⟨(hp_far HFAR.out _ _).trans HT.out.box, HST.out, HT.out.low.setCell (p := ⟨g, i, none⟩) hgb _, HT.out.far⟩⟩
    · have gz : (z == 3) = false := by simp [hz]
      rw [if_neg (fun h => hz h.2)]
      clear hz
      go_enter Tryz.func92, Tryz.ntmps92
      go_wp2_with fail
      exact bodyPost_end (v := .tuple #[]) (by simp [results, go_sem]) rfl ⟨rfl, HT.out⟩
  · have gx : (x == 5) = false := by simp [hx]
    rw [if_neg (fun h => hx h.1)]
    clear hx
    go_enter Tryz.func92, Tryz.ntmps92
    go_wp2_with fail
    exact bodyPost_end (v := .tuple #[]) (by simp [results, go_sem]) rfl ⟨rfl, HT.out⟩
set_option maxRecDepth 100000 in
set_option maxHeartbeats 4000000 in
theorem wkTerminators_any (V : Option Addr) (n cv : Nat) (xs : List Int) (w0 w : World) (hb : Below w0.heap.size w0 w) (hown : w.ownsRow w0.heap.size 3 1 (.slice V n cv) n (xs.map (Value.int .i64))) (hn : n ≤ 1000) :
    Calls Tryz.prog 67 #[.slice V n cv] w fun e w' => WkAns w0 w' V n cv (bE (fE 0 xs)) e := by
  have hlen : xs.length = n := by have := hown.1; simpa using this
  have hzl : (fE 0 xs).length = n := by rw [fE_len, hlen]
  have hyl : (bE (fE 0 xs)).length = n := by rw [bE_len, hzl]
  have HAT := Lib.hid (fun k x (h : xs[k]? = some x) => fE_at (a := 0) h)
  have HBT := Lib.hid (fun k x (h : (fE 0 xs)[k]? = some x) => bE_at h)
  obtain ⟨ys, hys⟩ : ∃ ys, bE (fE 0 xs) = ys := ⟨_, rfl⟩
  rw [hys] at hyl HBT ⊢
  obtain ⟨zs, hzs⟩ : ∃ zs, fE 0 xs = zs := ⟨_, rfl⟩
  rw [hzs] at hzl HAT HBT
  have HL := Lib.hid hlen
  have HYL := Lib.hid hyl
  have HZL := Lib.hid hzl
  have hwl : w0.heap.size ≤ w.heap.size := hb.size
  have HT0 : Hid (TBox w0 (w.alloc (.cells #[.slice V n cv] 22)) w.heap.size V n cv xs) := Lib.hid ⟨heap_alloc_new _ _, hown.alloc _, hb.alloc hwl _, fun g e => by
    subst e
    have := (hown.lt g rfl).2
    omega⟩
  have eg := enters_of Tryz.func92 (by kernel_rfl) rfl
  have HS1 : Hid (TBox w0 (w.alloc (.cells #[.slice V n cv] 22)) w.heap.size V n cv (zs.take 1 ++ xs.drop 1)) := Lib.hid (by
    have h := HT0.out
    rcases Nat.eq_zero_or_pos n with h0 | h0
    · have e1 : xs = [] := List.eq_nil_of_length_eq_zero (by omega)
      have e2 : zs = [] := List.eq_nil_of_length_eq_zero (by omega)
      rw [e1] at h
      rw [e1, e2]
      exact h
    · obtain ⟨x, hx⟩ : ∃ x, xs[0]? = some x := ⟨_, List.getElem?_eq_getElem (by omega)⟩
      have e : zs[0]? = some x := by rw [HAT.out 0 x hx, if_neg (fun h => by have := h.2; simp [pv1] at this)]
      rw [← wmix_keep hlen hzl h0 hx e]
      simpa using h)
  have HEQ : Hid (∀ k, n = k + 1 → zs[k]? = ys[k]?) := Lib.hid (fun k hk => by
    obtain ⟨x, hx⟩ : ∃ x, zs[k]? = some x := ⟨_, List.getElem?_eq_getElem (by omega)⟩
    rw [HBT.out k x hx, hx, if_neg (fun h => by have := h.2; rw [List.getElem?_eq_none (by omega)] at this; cases this)])
  clear hlen hyl hzl hys hzs hown hb hwl HT0
  go_enter Tryz.func67, Tryz.ntmps67
  go_wp2_with fail
  go_loopw [3] (fun i wr => ∃ k : Nat, (k + 1 ≤ n ∨ k = 0) ∧ i = .int .i64 ((k : Int) + 1) ∧ TBox w0 wr w.heap.size V n cv (zs.take (k + 1) ++ xs.drop (k + 1))) (fun i _ => n - (intOf i).toNat)
  case atStart => exact ⟨0, .inr rfl, rfl, HS1.out⟩
  case round =>
    obtain ⟨k, hk, rfl, hT⟩ := hrel
    have cb := hp_cell (j := 0) hT.box rfl
    have HT := Lib.hid hT
    by_cases hlt : k + 1 < n
    · obtain ⟨x, hx⟩ : ∃ x, xs[k + 1]? = some x := ⟨_, List.getElem?_eq_getElem (by rw [HL.out]; exact hlt)⟩
      obtain ⟨z, hz⟩ : ∃ z, zs[k]? = some z := ⟨_, List.getElem?_eq_getElem (by rw [HZL.out]; omega)⟩
      have hzk := HAT.out (k + 1) x hx
      rw [show pv1 0 zs (k + 1) = z by show zs.getD k 0 = z; rw [List.getD_eq_getElem?_getD, hz]; rfl] at hzk
      have HC := Lib.hid (wkReach_any w.heap.size (k + 1) k x z V n cv _ w0 wr hT hlt (by omega) (by rw [wmix_at HZL.out (by omega) (Nat.le_refl _), hx]) (by rw [wmix_lt HZL.out (by omega) (by omega), hz]) hn)
      have HN : Hid ((if x = 5 ∧ z = 3 then (zs.take (k + 1) ++ xs.drop (k + 1)).set (k + 1) 3 else (zs.take (k + 1) ++ xs.drop (k + 1))) = zs.take (k + 1 + 1) ++ xs.drop (k + 1 + 1)) := Lib.hid (by
        by_cases hc : x = 5 ∧ z = 3
        · rw [if_pos hc] at hzk ⊢
          exact wmix_set HL.out HZL.out hlt hzk
        · rw [if_neg hc] at hzk ⊢
          exact wmix_keep HL.out HZL.out hlt hx hzk)
      rw [HN.out] at HC
      have h1 : (k : Int) + 1 < (n : Int) := by omega
      have h0 : (0 : Int) ≤ (k : Int) := by omega
      have hki : ((k + 1 : Nat) : Int) = (k : Int) + 1 := by omega
      rw [hki] at HC
      clear hT hx hz hzk hk hki HN
      go_wp2_with fail
      refine HC.out.mono ?_
      rintro e w2 ⟨rfl, hT2⟩
      have HT2 := Lib.hid hT2
      clear hT2 cb
      go_wp2_with fail
      go_roundw
      case rel => exact ⟨k + 1, by omega, by go_num, HT2.out⟩
      case measure => simp [intOf]; omega
    · have HT1 : Hid (TBox w0 wr w.heap.size V n cv zs) := Lib.hid (by
        have h9 := HT.out
        rcases Nat.eq_zero_or_pos n with h0 | h0
        · have e1 : xs = [] := List.eq_nil_of_length_eq_zero (by rw [HL.out]; exact h0)
          have e2 : zs = [] := List.eq_nil_of_length_eq_zero (by rw [HZL.out]; exact h0)
          rw [e1, e2] at h9
          rw [e2]
          simpa using h9
        · rwa [show k + 1 = n by omega, wmix_all HL.out HZL.out] at h9)
      have h1 : ¬ (k : Int) + 1 < (n : Int) := by omega
      have hk5 : k ≤ 1000 := by omega
      clear hT hlt HT hk
      go_wp2_with fail
      clear cb h1
      have HZ : Hid (((n : Int) - 2 < 0 ∧ TBox w0 wr w.heap.size V n cv ys) ∨ ∃ j : Nat, (n : Int) - 2 = (j : Int) ∧ j + 1 < n ∧ TBox w0 wr w.heap.size V n cv (zs.take (j + 1) ++ ys.drop (j + 1))) := Lib.hid (by
        have h9 := HT1.out
        by_cases h2 : 2 ≤ n
        · refine .inr ⟨n - 2, by omega, by omega, ?_⟩
          obtain ⟨y, hy⟩ : ∃ y, zs[n - 1]? = some y := ⟨_, List.getElem?_eq_getElem (by rw [HZL.out]; omega)⟩
          have hy2 := (HEQ.out (n - 1) (by omega)).symm.trans hy
          have := wmix_backKeep HZL.out HYL.out (show n - 1 < n by omega) hy hy2
          rw [show n - 1 + 1 = n by omega, wmix_all HYL.out HZL.out] at this
          rw [show n - 2 + 1 = n - 1 by omega, ← this]
          exact h9
        · refine .inl ⟨by omega, ?_⟩
          have : zs = ys := by
            refine List.ext_getElem? fun j => ?_
            by_cases hj : j < n
            · exact HEQ.out j (by omega)
            · rw [List.getElem?_eq_none (by rw [HZL.out]; omega), List.getElem?_eq_none (by rw [HYL.out]; omega)]
          rwa [this] at h9)
      go_loopw [4] (fun i ws => ∃ z : Int, i = .int .i64 z ∧ z < 1000 ∧ -5 < z ∧ ((z < 0 ∧ TBox w0 ws w.heap.size V n cv ys) ∨ ∃ j : Nat, z = (j : Int) ∧ j + 1 < n ∧ TBox w0 ws w.heap.size V n cv (zs.take (j + 1) ++ ys.drop (j + 1)))) (fun i _ => (intOf i + 5).toNat)
      case atStart => exact ⟨(n : Int) - 2, by go_num, by omega, by omega, HZ.out⟩
      case round =>
        obtain ⟨z, rfl, hz1, hz5, hT⟩ := hrel
        rcases hT with ⟨hz0, hT⟩ | ⟨j, rfl, hj, hT⟩
        · have HT2 := Lib.hid hT
          clear hT
          go_wp2_with fail
          exact bodyPost_end (v := .tuple #[]) (by simp [results, go_sem]) rfl ⟨rfl, HT2.out.row, HT2.out.low⟩
        · obtain ⟨x, hx⟩ : ∃ x, zs[j]? = some x := ⟨_, List.getElem?_eq_getElem (by rw [HZL.out]; omega)⟩
          obtain ⟨y, hy⟩ : ∃ y, ys[j + 1]? = some y := ⟨_, List.getElem?_eq_getElem (by rw [HYL.out]; omega)⟩
          have hyj := HBT.out j x hx
          rw [hy] at hyj
          have HC := Lib.hid (wkReach_any w.heap.size j (j + 1) x y V n cv _ w0 wr hT (by omega) hj (by rw [wmix_lt HZL.out (by omega) (by omega), hx]) (by rw [wmix_at HZL.out (by omega) (Nat.le_refl _), hy]) hn)
          have HN : Hid ((if x = 5 ∧ y = 3 then (zs.take (j + 1) ++ ys.drop (j + 1)).set j 3 else (zs.take (j + 1) ++ ys.drop (j + 1))) = zs.take j ++ ys.drop j) := Lib.hid (by
            by_cases hc : x = 5 ∧ y = 3
            · rw [if_pos hc]
              rw [if_pos ⟨hc.1, congrArg some hc.2⟩] at hyj
              exact wmix_back HZL.out HYL.out (by omega) hyj
            · rw [if_neg hc]
              rw [if_neg (fun h => hc ⟨h.1, Option.some.inj h.2⟩)] at hyj
              exact wmix_backKeep HZL.out HYL.out (by omega) hx hyj)
          rw [HN.out] at HC
          have hki : ((j + 1 : Nat) : Int) = (j : Int) + 1 := by omega
          rw [hki] at HC
          have h0 : (0 : Int) ≤ (j : Int) := by omega
          clear hT hx hy hyj hki HN
          go_wp2_with fail
          refine HC.out.mono ?_
          rintro e w2 ⟨rfl, hT2⟩
          have HT2 := Lib.hid hT2
          clear hT2
          go_wp2_with fail
          go_roundw
          case rel =>
            refine ⟨(j : Int) - 1, by go_num, by omega, by omega, ?_⟩
            cases j with
            | zero => exact .inl ⟨by omega, by simpa using HT2.out⟩
            | succ j => exact .inr ⟨j, by omega, by omega, HT2.out⟩
          case measure => simp [intOf]; omega
end Go.Proofs.YtdgomaoikeffhaaGreat
/- weak's steps as function values, after, and All, walked. -/
namespace Go.Proofs.YtdgomaoikeffhaaGreat
open Go.RowKit

/-- A step: its function, what it has captured, what it does. -/
abbrev StepQ := FuncId × Array Value × (List Int → List Int)
def stV (q : StepQ) : Value := .func (.func q.1) #[] q.2.1
/-- What a call of a step owes, at any world behind w0. -/
structure StepOk (w0 : World) (q : StepQ) : Prop where
  eg : ∀ args w, (callFunc q.1 args).run Tryz.prog w = .ok (.enter q.1 args) w
  call : ∀ V n cv xs w, Below w0.heap.size w0 w → w.ownsRow w0.heap.size 3 1 (.slice V n cv) n (xs.map (Value.int .i64)) → n ≤ 1000 → Calls Tryz.prog q.1 (#[.slice V n cv] ++ q.2.1) w fun e w' => WkAns w0 w' V n cv (q.2.2 xs) e
theorem stMarks {w0 : World} {sb : Nat} {sos : Int} (hs : carF sos = sos) (hbx : w0.heap[sb]? = some (.cells #[.int .i64 sos] 3 (0, 0))) : StepOk w0 (87, #[.pointer (some ⟨sb, 0, none⟩)], wk1 sos) :=
  ⟨enters_of Tryz.func87 (by kernel_rfl) rfl, fun V n cv xs w hb ho hn => wkMarks_any sb sos V n cv xs w0 w hs hbx hb ho hn⟩
theorem stNumbers {w0 : World} {sb tb ab ob : Nat} {o a sos : Int} {S : List Int} (hx : NBox w0 sb tb ab ob o a sos S) : StepOk w0 (106, #[.pointer (some ⟨sb, 0, none⟩), .pointer (some ⟨tb, 0, none⟩), .pointer (some ⟨ab, 0, none⟩), .pointer (some ⟨ob, 0, none⟩)], wkN o a S sos) :=
  ⟨enters_of Tryz.func106 (by kernel_rfl) rfl, fun V n cv xs w hb ho hn => wkNumbers_any sb tb ab ob o a sos S V n cv xs w0 w hx hb ho hn⟩
theorem stSeparators (w0 : World) : StepOk w0 (66, #[], wk4) :=
  ⟨enters_of Tryz.func66 (by kernel_rfl) rfl, fun V n cv xs w hb ho hn => wkSeparators_any V n cv xs w0 w hb ho hn⟩
theorem stTerminators (w0 : World) : StepOk w0 (67, #[], fun l => bE (fE 0 l)) :=
  ⟨enters_of Tryz.func67 (by kernel_rfl) rfl, fun V n cv xs w hb ho hn => wkTerminators_any V n cv xs w0 w hb ho hn⟩
theorem exNew {V : Option Addr} {n cv m c : Nat} {xs S : List Int} {o : Int} {w0 w : World} (hm : S.length = m) (hm2 : m ≤ 1000) (hb : Below w0.heap.size w0 w) (ho : w.ownsRow w0.heap.size 3 1 (.slice V n cv) n (xs.map (Value.int .i64))) (hn : n ≤ 1000) :
    Calls Tryz.prog 90 #[.slice V n cv, .int .i64 o, .slice (some ⟨w.heap.size, 0, none⟩) m c] (w.alloc (.cells (S.map (Value.int .i64)).toArray 3)) fun e w' => WkAns w0 w' V n cv (xs.map (exF o S)) e := by
  refine wkExchange_any o S _ m c V n cv xs w0 _ (by have := rdNewI w S 3; rwa [hm] at this) ?_ hm2 (hb.alloc hb.size _) (ho.alloc _) hn
  rintro h0 ad g e1 rfl h2
  obtain rfl := Option.some.inj e1
  have := (ho.lt g rfl).2
  show w.heap.size ≠ g
  omega
set_option maxRecDepth 100000 in
theorem wkLetters_any (V : Option Addr) (n cv : Nat) (xs : List Int) (w0 w : World) (hb : Below w0.heap.size w0 w) (hown : w.ownsRow w0.heap.size 3 1 (.slice V n cv) n (xs.map (Value.int .i64))) (hn : n ≤ 1000) :
    Calls Tryz.prog 65 #[.slice V n cv] w fun e w' => WkAns w0 w' V n cv (wk3 xs) e := by
  have HC := Lib.hid (exNew (o := 1) (S := [2]) (m := 1) (c := 1) rfl (by omega) hb hown hn)
  rw [ex_three] at HC
  clear hb hown
  go_enter Tryz.func65, Tryz.ntmps65
  go_wp2_with fail
  refine HC.out.mono ?_
  rintro e w2 ⟨rfl, h1, h2⟩
  have H1 := Lib.hid h1
  have H2 := Lib.hid h2
  clear h1 h2
  go_wp2_with fail
  exact bodyPost_end (v := .tuple #[]) (by simp [results, go_sem]) rfl ⟨rfl, H1.out, H2.out⟩
set_option maxRecDepth 100000 in
theorem wkOthers_any (V : Option Addr) (n cv : Nat) (xs : List Int) (w0 w : World) (hb : Below w0.heap.size w0 w) (hown : w.ownsRow w0.heap.size 3 1 (.slice V n cv) n (xs.map (Value.int .i64))) (hn : n ≤ 1000) :
    Calls Tryz.prog 68 #[.slice V n cv] w fun e w' => WkAns w0 w' V n cv (wk6 xs) e := by
  have HC := Lib.hid (exNew (o := 13) (S := [4, 5, 7]) (m := 3) (c := 3) rfl (by omega) hb hown hn)
  rw [ex_six] at HC
  clear hb hown
  go_enter Tryz.func68, Tryz.ntmps68
  go_wp2_with fail
  refine HC.out.mono ?_
  rintro e w2 ⟨rfl, h1, h2⟩
  have H1 := Lib.hid h1
  have H2 := Lib.hid h2
  clear h1 h2
  go_wp2_with fail
  exact bodyPost_end (v := .tuple #[]) (by simp [results, go_sem]) rfl ⟨rfl, H1.out, H2.out⟩
theorem stLetters (w0 : World) : StepOk w0 (65, #[], wk3) :=
  ⟨enters_of Tryz.func65 (by kernel_rfl) rfl, fun V n cv xs w hb ho hn => wkLetters_any V n cv xs w0 w hb ho hn⟩
theorem stOthers (w0 : World) : StepOk w0 (68, #[], wk6) :=
  ⟨enters_of Tryz.func68 (by kernel_rfl) rfl, fun V n cv xs w hb ho hn => wkOthers_any V n cv xs w0 w hb ho hn⟩
def doneF (Q : List StepQ) (xs : List Int) : List Int := Q.foldl (fun l q => q.2.2 l) xs
theorem doneF_more {Q : List StepQ} {k : Nat} {q : StepQ} (h : Q[k]? = some q) (xs : List Int) : doneF (Q.take (k + 1)) xs = q.2.2 (doneF (Q.take k) xs) := by
  unfold doneF
  rw [List.take_add_one, h, Option.toList_some, List.foldl_append]
  rfl
set_option maxRecDepth 100000 in
set_option maxHeartbeats 4000000 in
theorem wkAfter_any (A SA : Option Addr) (n c m d : Nat) (xs : List Int) (Q : List StepQ) (w : World) (hr : Rd w 1 A n (xs.map (Value.int .i64))) (hq : Rd w 1 SA m (Q.map stV)) (hok : ∀ q ∈ Q, StepOk w q) (hn : n ≤ 1000) (hm : m ≤ 1000) :
    Calls Tryz.prog 62 #[.slice A n c, .slice SA m d] w fun e w' => (∃ v, e = .returned v ∧ w'.ownsRow w.heap.size 3 1 v n ((doneF Q xs).map (Value.int .i64))) ∧ Below w.heap.size w w' := by
  have hQl : Q.length = m := by simpa using hq.len1
  have HCL := Lib.hid (cloneInt_any A n c (xs.map (Value.int .i64)) w hr (oneInts _ _) (by omega))
  have HQ := Lib.hid hq
  have HQL := Lib.hid hQl
  have HOK := Lib.hid hok
  clear hr hq hQl hok
  go_enter Tryz.func62, Tryz.ntmps62
  go_wp2_with fail
  refine HCL.out.mono ?_
  rintro e w1 ⟨v, rfl, hown, hb1⟩
  obtain ⟨V, cv, rfl, hcv⟩ := own_form hown
  have HO1 := Lib.hid hown
  have HB1 := Lib.hid hb1
  clear hown hb1
  go_wp2_with fail
  go_loopw [12] (fun i wr => ∃ k : Nat, k ≤ m ∧ i = .int .i64 (k : Int) ∧ wr.ownsRow w.heap.size 3 1 (.slice V n cv) n ((doneF (Q.take k) xs).map (Value.int .i64)) ∧ Below w.heap.size w wr) (fun i _ => m - (intOf i).toNat)
  case atStart => exact ⟨0, Nat.zero_le _, rfl, HO1.out, HB1.out⟩
  case round =>
    obtain ⟨k, hk, rfl, hown, hb⟩ := hrel
    by_cases hlt : k < m
    · obtain ⟨q, hqk⟩ : ∃ q, Q[k]? = some q := ⟨_, List.getElem?_eq_getElem (by rw [HQL.out]; exact hlt)⟩
      obtain ⟨ad, rfl, _, hc⟩ := (HQ.out.below hb).at_ hlt
      have cq := hc (stV q) (by rw [List.getElem?_map, hqk]; rfl)
      have hok := HOK.out q (List.mem_of_getElem? hqk)
      have hcall := Lib.hid (hok.call V n cv _ wr hb hown hn)
      rw [← doneF_more hqk] at hcall
      obtain ⟨g, lb, f⟩ := q
      have eg := hok.eg
      simp only [stV] at cq hcall eg
      clear hqk hc hown hb hok
      go_wp2_with (go_at_fn g; refine hcall.out.mono ?_; rintro e w4 ⟨rfl, h1, h2⟩; have H1 := Lib.hid h1; have H2 := Lib.hid h2; clear h1 h2 cq)
      go_roundw
      case rel => exact ⟨k + 1, by omega, by go_num, H1.out, H2.out⟩
      case measure => simp [intOf]; omega
    · have HE := Lib.hid (by have := hown; rwa [List.take_of_length_le (by rw [HQL.out]; omega)] at this)
      have HB := Lib.hid hb
      clear hown hb
      go_wp2_with fail
      go_ret
      exact ⟨⟨_, rfl, HE.out⟩, HB.out⟩
set_option maxRecDepth 100000 in
theorem wkMarksMk_any (sos : Int) (w : World) : Calls Tryz.prog 63 #[.int .i64 sos] w fun e w' => (∃ sb, e = .returned (.func (.func 87) #[] #[.pointer (some ⟨sb, 0, none⟩)]) ∧ w'.heap[sb]? = some (.cells #[.int .i64 sos] 3 (0, 0))) ∧ Below w.heap.size w w' := by
  have HN := Lib.hid (heap_alloc_new w (.cells #[.int .i64 sos] 3))
  have HB := Lib.hid (below_new w (.cells #[.int .i64 sos] 3))
  go_enter Tryz.func63, Tryz.ntmps63
  go_wp2_with fail
  go_ret
  exact ⟨⟨_, rfl, HN.out⟩, HB.out⟩
set_option maxRecDepth 100000 in
theorem wkNumbersMk_any (o a sos : Int) (S : List Int) (C : Option Addr) (m c : Nat) (w : World) (hr : Rd w 1 C m (S.map (Value.int .i64))) (hm : m ≤ 1000) : Calls Tryz.prog 89 #[.int .i64 o, .int .i64 a, .int .i64 sos, .slice C m c] w fun e w' => (∃ sb tb ab ob, e = .returned (.func (.func 106) #[] #[.pointer (some ⟨sb, 0, none⟩), .pointer (some ⟨tb, 0, none⟩), .pointer (some ⟨ab, 0, none⟩), .pointer (some ⟨ob, 0, none⟩)]) ∧ NBox w' sb tb ab ob o a sos S) ∧ Below w.heap.size w w' := by
  have hk : Below w.heap.size w ((((w.alloc (.cells #[.int .i64 o] 3)).alloc (.cells #[.int .i64 a] 3)).alloc (.cells #[.int .i64 sos] 3)).alloc (.cells #[.slice C m c] 22)) :=
    ((((Below.refl _ _).alloc (Nat.le_refl _) _).alloc (by simp) _).alloc (by simp; omega) _).alloc (by simp; omega) _
  have h0 : ((((w.alloc (.cells #[.int .i64 o] 3)).alloc (.cells #[.int .i64 a] 3)).alloc (.cells #[.int .i64 sos] 3)).alloc (.cells #[.slice C m c] 22)).heap[w.heap.size]? = some (.cells #[.int .i64 o] 3 (0, 0)) := by
    rw [heap_alloc_old (h := by simp <;> omega), heap_alloc_old (h := by simp <;> omega), heap_alloc_old (h := by simp)]
    exact heap_alloc_new _ _
  have h1 : ((((w.alloc (.cells #[.int .i64 o] 3)).alloc (.cells #[.int .i64 a] 3)).alloc (.cells #[.int .i64 sos] 3)).alloc (.cells #[.slice C m c] 22)).heap[w.heap.size + 1]? = some (.cells #[.int .i64 a] 3 (0, 0)) := by
    rw [heap_alloc_old (h := by simp <;> omega), heap_alloc_old (h := by simp)]
    have := heap_alloc_new (w.alloc (.cells #[.int .i64 o] 3)) (.cells #[.int .i64 a] 3)
    rwa [World.size_alloc] at this
  have h2 : ((((w.alloc (.cells #[.int .i64 o] 3)).alloc (.cells #[.int .i64 a] 3)).alloc (.cells #[.int .i64 sos] 3)).alloc (.cells #[.slice C m c] 22)).heap[w.heap.size + 2]? = some (.cells #[.int .i64 sos] 3 (0, 0)) := by
    rw [heap_alloc_old (h := by simp)]
    have := heap_alloc_new ((w.alloc (.cells #[.int .i64 o] 3)).alloc (.cells #[.int .i64 a] 3)) (.cells #[.int .i64 sos] 3)
    rwa [World.size_alloc, World.size_alloc] at this
  have h3 : ((((w.alloc (.cells #[.int .i64 o] 3)).alloc (.cells #[.int .i64 a] 3)).alloc (.cells #[.int .i64 sos] 3)).alloc (.cells #[.slice C m c] 22)).heap[w.heap.size + 3]? = some (.cells #[.slice C m c] 22 (0, 0)) := by
    have := heap_alloc_new (((w.alloc (.cells #[.int .i64 o] 3)).alloc (.cells #[.int .i64 a] 3)).alloc (.cells #[.int .i64 sos] 3)) (.cells #[.slice C m c] 22)
    rwa [World.size_alloc, World.size_alloc, World.size_alloc] at this
  have HX := Lib.hid (NBox.mk h2 ⟨C, m, c, h3, hr.below hk, hm⟩ h1 h0)
  have HB := Lib.hid hk
  clear hk h0 h1 h2 h3 hr
  go_enter Tryz.func89, Tryz.ntmps89
  go_wp2_with fail
  go_ret
  exact ⟨⟨_, _, _, _, rfl, HX.out⟩, HB.out⟩
set_option maxRecDepth 100000 in
theorem wkArabic_any (sos : Int) (w : World) : Calls Tryz.prog 64 #[.int .i64 sos] w fun e w' => (∃ sb tb ab ob, e = .returned (.func (.func 106) #[] #[.pointer (some ⟨sb, 0, none⟩), .pointer (some ⟨tb, 0, none⟩), .pointer (some ⟨ab, 0, none⟩), .pointer (some ⟨ob, 0, none⟩)]) ∧ NBox w' sb tb ab ob 6 2 sos [0, 1, 2]) ∧ Below w.heap.size w w' := by
  have HC := Lib.hid (wkNumbersMk_any 6 2 sos [0, 1, 2] _ 3 3 _ (rdNewI w [0, 1, 2] 3) (by omega))
  have HB := Lib.hid (below_new w (.cells (([0, 1, 2] : List Int).map (Value.int .i64)).toArray 3))
  go_enter Tryz.func64, Tryz.ntmps64
  go_wp2_with fail
  refine HC.out.mono ?_
  rintro e w2 ⟨⟨sb, tb, ab, ob, rfl, hx⟩, hb⟩
  have HX := Lib.hid hx
  have HB2 := Lib.hid (below_self HB.out hb)
  clear hx hb
  go_wp2_with fail
  go_ret
  exact ⟨⟨_, _, _, _, rfl, HX.out⟩, HB2.out⟩
set_option maxRecDepth 100000 in
theorem wkLeft_any (sos : Int) (w : World) : Calls Tryz.prog 69 #[.int .i64 sos] w fun e w' => (∃ sb tb ab ob, e = .returned (.func (.func 106) #[] #[.pointer (some ⟨sb, 0, none⟩), .pointer (some ⟨tb, 0, none⟩), .pointer (some ⟨ab, 0, none⟩), .pointer (some ⟨ob, 0, none⟩)]) ∧ NBox w' sb tb ab ob 0 0 sos [0, 1]) ∧ Below w.heap.size w w' := by
  have HC := Lib.hid (wkNumbersMk_any 0 0 sos [0, 1] _ 2 2 _ (rdNewI w [0, 1] 3) (by omega))
  have HB := Lib.hid (below_new w (.cells (([0, 1] : List Int).map (Value.int .i64)).toArray 3))
  go_enter Tryz.func69, Tryz.ntmps69
  go_wp2_with fail
  refine HC.out.mono ?_
  rintro e w2 ⟨⟨sb, tb, ab, ob, rfl, hx⟩, hb⟩
  have HX := Lib.hid hx
  have HB2 := Lib.hid (below_self HB.out hb)
  clear hx hb
  go_wp2_with fail
  go_ret
  exact ⟨⟨_, _, _, _, rfl, HX.out⟩, HB2.out⟩
set_option maxRecDepth 100000 in
set_option maxHeartbeats 4000000 in
theorem wkAll_any (A : Option Addr) (n c : Nat) (xs ys : List Int) (sos : Int) (w : World) (hs : carF sos = sos) (hy : wAll sos xs = ys) (hr : Rd w 1 A n (xs.map (Value.int .i64))) (hn : n ≤ 1000) :
    Calls Tryz.prog 43 #[.slice A n c, .int .i64 sos] w fun e w' => (∃ v, e = .returned v ∧ w'.ownsRow w.heap.size 3 1 v n (ys.map (Value.int .i64))) ∧ Below w.heap.size w w' := by
  have HR := Lib.hid hr
  have HY := Lib.hid hy
  clear hr hy
  go_enter Tryz.func43, Tryz.ntmps43
  go_wp2_with fail
  refine (wkMarksMk_any sos w).mono ?_
  rintro e w1 ⟨⟨s1, rfl, x1⟩, hb1⟩
  have X1 := Lib.hid x1
  have HB1 := Lib.hid hb1
  clear x1 hb1
  go_wp2_with fail
  refine (wkArabic_any sos w1).mono ?_
  rintro e w2 ⟨⟨s2, t2, a2, o2, rfl, x2⟩, hb2⟩
  have X1b := Lib.hid ((hb2.block _ (hp_lt X1.out)).trans X1.out)
  have X2 := Lib.hid x2
  have HB2 := Lib.hid (below_self HB1.out hb2)
  clear x2 hb2
  go_wp2_with fail
  refine (wkLeft_any sos w2).mono ?_
  rintro e w3 ⟨⟨s3, t3, a3, o3, rfl, x3⟩, hb3⟩
  have X1c := Lib.hid ((hb3.block _ (hp_lt X1b.out)).trans X1b.out)
  have X2b := Lib.hid (X2.out.below hb3)
  have X3 := Lib.hid x3
  have HB3 := Lib.hid (below_self HB2.out hb3)
  clear x3 hb3
  obtain ⟨Q, hQ⟩ : ∃ Q : List StepQ, Q = [(87, #[.pointer (some ⟨s1, 0, none⟩)], wk1 sos), (106, #[.pointer (some ⟨s2, 0, none⟩), .pointer (some ⟨t2, 0, none⟩), .pointer (some ⟨a2, 0, none⟩), .pointer (some ⟨o2, 0, none⟩)], wkN 6 2 [0, 1, 2] sos), (65, #[], wk3), (66, #[], wk4), (67, #[], fun l => bE (fE 0 l)), (68, #[], wk6), (106, #[.pointer (some ⟨s3, 0, none⟩), .pointer (some ⟨t3, 0, none⟩), .pointer (some ⟨a3, 0, none⟩), .pointer (some ⟨o3, 0, none⟩)], wkN 0 0 [0, 1] sos)] := ⟨_, rfl⟩
  have hb4 := below_new w3 (.cells (Q.map stV).toArray 120)
  have HD : Hid (doneF Q xs = ys) := Lib.hid (by
    rw [hQ, ← HY.out]
    unfold doneF wAll
    simp only [List.foldl_cons, List.foldl_nil, wkN_two, wkN_seven, terms_eq])
  have HC := Lib.hid (wkAfter_any A _ n c 7 7 xs Q (w3.alloc (.cells (Q.map stV).toArray 120)) ((HR.out.below HB3.out).below hb4) (by have := Rd.new_ w3 (Q.map stV) 120; rwa [List.length_map, show Q.length = 7 by rw [hQ]; rfl] at this) (by
    intro q hq
    rw [hQ] at hq
    simp only [List.mem_cons, List.not_mem_nil, or_false] at hq
    rcases hq with rfl | rfl | rfl | rfl | rfl | rfl | rfl
    · exact stMarks hs ((hb4.block _ (hp_lt X1c.out)).trans X1c.out)
    · exact stNumbers (X2b.out.below hb4)
    · exact stLetters _
    · exact stSeparators _
    · exact stTerminators _
    · exact stOthers _
    · exact stNumbers (X3.out.below hb4)) hn (by omega))
  have HB4 := Lib.hid (below_self HB3.out hb4)
  have HSZ : Hid (w.heap.size ≤ (w3.alloc (.cells (Q.map stV).toArray 120)).heap.size) := Lib.hid HB4.out.size
  rw [HD.out] at HC
  rw [hQ] at HC HB4 HSZ
  simp only [List.map_cons, List.map_nil, stV] at HC HB4 HSZ
  clear hb4 hQ HD
  go_wp2_with fail
  refine HC.out.mono ?_
  rintro e w5 ⟨⟨v, rfl, hown⟩, hb5⟩
  have HO := Lib.hid (own_base hown HSZ.out)
  have HB5 := Lib.hid (below_self HB4.out hb5)
  clear hown hb5
  go_wp2_with fail
  go_ret
  exact ⟨⟨_, rfl, HO.out⟩, HB5.out⟩
end Go.Proofs.YtdgomaoikeffhaaGreat
