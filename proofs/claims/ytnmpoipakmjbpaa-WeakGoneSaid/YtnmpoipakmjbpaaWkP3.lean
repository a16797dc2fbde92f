/- weak's steps as function values, after, and All, walked. -/
import Derived.Test.YtnmpoipakmjbpaaWkP2
import Derived.Test.YtnmpoipakmjbpaaCloneI
namespace Go.Proofs.Ytnmpoipakmjbpaa
open Go.RowKit

/-- A step: its function, what it has captured, what it does. -/
abbrev StepQ := FuncId × Array Value × (List Int → List Int)
def stV (q : StepQ) : Value := .func (.func q.1) #[] q.2.1
/-- What a call of a step owes, at any world behind w0. -/
structure StepOk (w0 : World) (q : StepQ) : Prop where
  eg : ∀ args w, (callFunc q.1 args).run Try.prog w = .ok (.enter q.1 args) w
  call : ∀ V n cv xs w, Below w0.heap.size w0 w → w.ownsRow w0.heap.size 3 1 (.slice V n cv) n (xs.map (Value.int .i64)) → n ≤ 1000 → Calls Try.prog q.1 (#[.slice V n cv] ++ q.2.1) w fun e w' => StepAns w0 w' V n cv (q.2.2 xs) e
theorem stMarks {w0 : World} {sb : Nat} {sos : Int} (hs : carF sos = sos) (hbx : w0.heap[sb]? = some (.cells #[.int .i64 sos] 3 (0, 0))) : StepOk w0 (70, #[.pointer (some ⟨sb, 0, none⟩)], wk1 sos) :=
  ⟨enters_of Try.func70 (by kernel_rfl) rfl, fun V n cv xs w hb ho hn => wkMarks_any sb sos V n cv xs w0 w hs hbx hb ho hn⟩
theorem stNumbers {w0 : World} {sb tb ab ob : Nat} {o a sos : Int} {S : List Int} (hx : NBox w0 sb tb ab ob o a sos S) : StepOk w0 (83, #[.pointer (some ⟨sb, 0, none⟩), .pointer (some ⟨tb, 0, none⟩), .pointer (some ⟨ab, 0, none⟩), .pointer (some ⟨ob, 0, none⟩)], wkN o a S sos) :=
  ⟨enters_of Try.func83 (by kernel_rfl) rfl, fun V n cv xs w hb ho hn => wkNumbers_any sb tb ab ob o a sos S V n cv xs w0 w hx hb ho hn⟩
theorem stSeparators (w0 : World) : StepOk w0 (47, #[], wk4) :=
  ⟨enters_of Try.func47 (by kernel_rfl) rfl, fun V n cv xs w hb ho hn => wkSeparators_any V n cv xs w0 w hb ho hn⟩
theorem stTerminators (w0 : World) : StepOk w0 (48, #[], fun l => bE (fE 0 l)) :=
  ⟨enters_of Try.func48 (by kernel_rfl) rfl, fun V n cv xs w hb ho hn => wkTerminators_any V n cv xs w0 w hb ho hn⟩
theorem exNew {V : Option Addr} {n cv m c : Nat} {xs S : List Int} {o : Int} {w0 w : World} (hm : S.length = m) (hm2 : m ≤ 1000) (hb : Below w0.heap.size w0 w) (ho : w.ownsRow w0.heap.size 3 1 (.slice V n cv) n (xs.map (Value.int .i64))) (hn : n ≤ 1000) :
    Calls Try.prog 73 #[.slice V n cv, .int .i64 o, .slice (some ⟨w.heap.size, 0, none⟩) m c] (w.alloc (.cells (S.map (Value.int .i64)).toArray 3)) fun e w' => StepAns w0 w' V n cv (xs.map (exF o S)) e := by
  refine wkExchange_any o S _ m c V n cv xs w0 _ (by have := rdNewI w S 3; rwa [hm] at this) ?_ hm2 (hb.alloc hb.size _) (ho.alloc _) hn
  rintro h0 ad g e1 rfl h2
  obtain rfl := Option.some.inj e1
  have := (ho.lt g rfl).2
  show w.heap.size ≠ g
  omega
set_option maxRecDepth 100000 in
theorem wkLetters_any (V : Option Addr) (n cv : Nat) (xs : List Int) (w0 w : World) (hb : Below w0.heap.size w0 w) (hown : w.ownsRow w0.heap.size 3 1 (.slice V n cv) n (xs.map (Value.int .i64))) (hn : n ≤ 1000) :
    Calls Try.prog 46 #[.slice V n cv] w fun e w' => StepAns w0 w' V n cv (wk3 xs) e := by
  have HC := Lib.hid (exNew (o := 1) (S := [2]) (m := 1) (c := 1) rfl (by omega) hb hown hn)
  rw [ex_three] at HC
  clear hb hown
  go_enter Try.func46, Try.ntmps46
  go_wp2_with fail
  refine HC.out.mono ?_
  rintro e w2 ⟨rfl, h1, h2⟩
  have H1 := Lib.hid h1
  have H2 := Lib.hid h2
  clear h1 h2
  go_wp2_with fail
  exact bodyPost_end (v := .tuple #[]) (by simp [results, go_sem]) rfl ⟨rfl, H1.out, H2.out⟩
set_option maxRecDepth 100000 in
theorem wkOthers_any (V : Option Addr) (n cv : Nat) (xs : List Int) (w0 w : World) (hb : Below w0.heap.size w0 w) (hown : w.ownsRow w0.heap.size 3 1 (.slice V n cv) n (xs.map (Value.int .i64))) (hn : n ≤ 1000) :
    Calls Try.prog 49 #[.slice V n cv] w fun e w' => StepAns w0 w' V n cv (wk6 xs) e := by
  have HC := Lib.hid (exNew (o := 13) (S := [4, 5, 7]) (m := 3) (c := 3) rfl (by omega) hb hown hn)
  rw [ex_six] at HC
  clear hb hown
  go_enter Try.func49, Try.ntmps49
  go_wp2_with fail
  refine HC.out.mono ?_
  rintro e w2 ⟨rfl, h1, h2⟩
  have H1 := Lib.hid h1
  have H2 := Lib.hid h2
  clear h1 h2
  go_wp2_with fail
  exact bodyPost_end (v := .tuple #[]) (by simp [results, go_sem]) rfl ⟨rfl, H1.out, H2.out⟩
theorem stLetters (w0 : World) : StepOk w0 (46, #[], wk3) :=
  ⟨enters_of Try.func46 (by kernel_rfl) rfl, fun V n cv xs w hb ho hn => wkLetters_any V n cv xs w0 w hb ho hn⟩
theorem stOthers (w0 : World) : StepOk w0 (49, #[], wk6) :=
  ⟨enters_of Try.func49 (by kernel_rfl) rfl, fun V n cv xs w hb ho hn => wkOthers_any V n cv xs w0 w hb ho hn⟩
def doneF (Q : List StepQ) (xs : List Int) : List Int := Q.foldl (fun l q => q.2.2 l) xs
theorem doneF_more {Q : List StepQ} {k : Nat} {q : StepQ} (h : Q[k]? = some q) (xs : List Int) : doneF (Q.take (k + 1)) xs = q.2.2 (doneF (Q.take k) xs) := by
  unfold doneF
  rw [List.take_add_one, h, Option.toList_some, List.foldl_append]
  rfl
set_option maxRecDepth 100000 in
set_option maxHeartbeats 4000000 in
theorem wkAfter_any (A SA : Option Addr) (n c m d : Nat) (xs : List Int) (Q : List StepQ) (w : World) (hr : Rd w 1 A n (xs.map (Value.int .i64))) (hq : Rd w 1 SA m (Q.map stV)) (hok : ∀ q ∈ Q, StepOk w q) (hn : n ≤ 1000) (hm : m ≤ 1000) :
    Calls Try.prog 43 #[.slice A n c, .slice SA m d] w fun e w' => (∃ v, e = .returned v ∧ w'.ownsRow w.heap.size 3 1 v n ((doneF Q xs).map (Value.int .i64))) ∧ Below w.heap.size w w' := by
  have hQl : Q.length = m := by simpa using hq.len1
  have HCL := Lib.hid (cloneInt_any A n c (xs.map (Value.int .i64)) w hr (oneInts _ _) (by omega))
  have HQ := Lib.hid hq
  have HQL := Lib.hid hQl
  have HOK := Lib.hid hok
  clear hr hq hQl hok
  go_enter Try.func43, Try.ntmps43
  go_wp2_with fail
  refine HCL.out.mono ?_
  rintro e w1 ⟨v, rfl, hown, hb1⟩
  obtain ⟨V, cv, rfl, hcv⟩ := own_form hown
  have HO1 := Lib.hid hown
  have HB1 := Lib.hid hb1
  clear hown hb1
  go_wp2_with fail
  go_loopw [12] (fun i wr => ∃ k : Nat, k ≤ m ∧ i = .int .i64 (k : Int) ∧ wr.ownsRow w.heap.size 3 1 (.slice V n cv) n ((doneF (Q.take k) xs).map (Value.int .i64)) ∧ Below w.heap.size w wr) (fun i _ => m - (intOf i).toNat)
  case atStart => exact ⟨0, Nat.zero_le _, rfl, HO1.out, HB1.out⟩
  case round =>
    obtain ⟨k, hk, rfl, hown, hb⟩ := hrel
    by_cases hlt : k < m
    · obtain ⟨q, hqk⟩ : ∃ q, Q[k]? = some q := ⟨_, List.getElem?_eq_getElem (by rw [HQL.out]; exact hlt)⟩
      obtain ⟨ad, rfl, _, hc⟩ := (HQ.out.below hb).at_ hlt
      have cq := hc (stV q) (by rw [List.getElem?_map, hqk]; rfl)
      have hok := HOK.out q (List.mem_of_getElem? hqk)
      have hcall := Lib.hid (hok.call V n cv _ wr hb hown hn)
      rw [← doneF_more hqk] at hcall
      obtain ⟨g, lb, f⟩ := q
      have eg := hok.eg
      simp only [stV] at cq hcall eg
      clear hqk hc hown hb hok
      go_wp2_with (go_at_fn g; refine hcall.out.mono ?_; rintro e w4 ⟨rfl, h1, h2⟩; have H1 := Lib.hid h1; have H2 := Lib.hid h2; clear h1 h2 cq)
      go_roundw
      case rel => exact ⟨k + 1, by omega, by go_num, H1.out, H2.out⟩
      case measure => simp [intOf]; omega
    · have HE := Lib.hid (by have := hown; rwa [List.take_of_length_le (by rw [HQL.out]; omega)] at this)
      have HB := Lib.hid hb
      clear hown hb
      go_wp2_with fail
      go_ret
      exact ⟨⟨_, rfl, HE.out⟩, HB.out⟩
set_option maxRecDepth 100000 in
theorem wkMarksMk_any (sos : Int) (w : World) : Calls Try.prog 44 #[.int .i64 sos] w fun e w' => (∃ sb, e = .returned (.func (.func 70) #[] #[.pointer (some ⟨sb, 0, none⟩)]) ∧ w'.heap[sb]? = some (.cells #[.int .i64 sos] 3 (0, 0))) ∧ Below w.heap.size w w' := by
  have HN := Lib.hid (heap_alloc_new w (.cells #[.int .i64 sos] 3))
  have HB := Lib.hid (below_new w (.cells #[.int .i64 sos] 3))
  go_enter Try.func44, Try.ntmps44
  go_wp2_with fail
  go_ret
  exact ⟨⟨_, rfl, HN.out⟩, HB.out⟩
set_option maxRecDepth 100000 in
theorem wkNumbersMk_any (o a sos : Int) (S : List Int) (C : Option Addr) (m c : Nat) (w : World) (hr : Rd w 1 C m (S.map (Value.int .i64))) (hm : m ≤ 1000) : Calls Try.prog 72 #[.int .i64 o, .int .i64 a, .int .i64 sos, .slice C m c] w fun e w' => (∃ sb tb ab ob, e = .returned (.func (.func 83) #[] #[.pointer (some ⟨sb, 0, none⟩), .pointer (some ⟨tb, 0, none⟩), .pointer (some ⟨ab, 0, none⟩), .pointer (some ⟨ob, 0, none⟩)]) ∧ NBox w' sb tb ab ob o a sos S) ∧ Below w.heap.size w w' := by
  have hk : Below w.heap.size w ((((w.alloc (.cells #[.int .i64 o] 3)).alloc (.cells #[.int .i64 a] 3)).alloc (.cells #[.int .i64 sos] 3)).alloc (.cells #[.slice C m c] 22)) :=
    ((((Below.refl _ _).alloc (Nat.le_refl _) _).alloc (by simp) _).alloc (by simp; omega) _).alloc (by simp; omega) _
  have h0 : ((((w.alloc (.cells #[.int .i64 o] 3)).alloc (.cells #[.int .i64 a] 3)).alloc (.cells #[.int .i64 sos] 3)).alloc (.cells #[.slice C m c] 22)).heap[w.heap.size]? = some (.cells #[.int .i64 o] 3 (0, 0)) := by
    rw [heap_alloc_old (h := by simp <;> omega), heap_alloc_old (h := by simp <;> omega), heap_alloc_old (h := by simp)]
    exact heap_alloc_new _ _
  have h1 : ((((w.alloc (.cells #[.int .i64 o] 3)).alloc (.cells #[.int .i64 a] 3)).alloc (.cells #[.int .i64 sos] 3)).alloc (.cells #[.slice C m c] 22)).heap[w.heap.size + 1]? = some (.cells #[.int .i64 a] 3 (0, 0)) := by
    rw [heap_alloc_old (h := by simp <;> omega), heap_alloc_old (h := by simp)]
    have := heap_alloc_new (w.alloc (.cells #[.int .i64 o] 3)) (.cells #[.int .i64 a] 3)
    rwa [World.size_alloc] at this
  have h2 : ((((w.alloc (.cells #[.int .i64 o] 3)).alloc (.cells #[.int .i64 a] 3)).alloc (.cells #[.int .i64 sos] 3)).alloc (.cells #[.slice C m c] 22)).heap[w.heap.size + 2]? = some (.cells #[.int .i64 sos] 3 (0, 0)) := by
    rw [heap_alloc_old (h := by simp)]
    have := heap_alloc_new ((w.alloc (.cells #[.int .i64 o] 3)).alloc (.cells #[.int .i64 a] 3)) (.cells #[.int .i64 sos] 3)
    rwa [World.size_alloc, World.size_alloc] at this
  have h3 : ((((w.alloc (.cells #[.int .i64 o] 3)).alloc (.cells #[.int .i64 a] 3)).alloc (.cells #[.int .i64 sos] 3)).alloc (.cells #[.slice C m c] 22)).heap[w.heap.size + 3]? = some (.cells #[.slice C m c] 22 (0, 0)) := by
    have := heap_alloc_new (((w.alloc (.cells #[.int .i64 o] 3)).alloc (.cells #[.int .i64 a] 3)).alloc (.cells #[.int .i64 sos] 3)) (.cells #[.slice C m c] 22)
    rwa [World.size_alloc, World.size_alloc, World.size_alloc] at this
  have HX := Lib.hid (NBox.mk h2 ⟨C, m, c, h3, hr.below hk, hm⟩ h1 h0)
  have HB := Lib.hid hk
  clear hk h0 h1 h2 h3 hr
  go_enter Try.func72, Try.ntmps72
  go_wp2_with fail
  go_ret
  exact ⟨⟨_, _, _, _, rfl, HX.out⟩, HB.out⟩
set_option maxRecDepth 100000 in
theorem wkArabic_any (sos : Int) (w : World) : Calls Try.prog 45 #[.int .i64 sos] w fun e w' => (∃ sb tb ab ob, e = .returned (.func (.func 83) #[] #[.pointer (some ⟨sb, 0, none⟩), .pointer (some ⟨tb, 0, none⟩), .pointer (some ⟨ab, 0, none⟩), .pointer (some ⟨ob, 0, none⟩)]) ∧ NBox w' sb tb ab ob 6 2 sos [0, 1, 2]) ∧ Below w.heap.size w w' := by
  have HC := Lib.hid (wkNumbersMk_any 6 2 sos [0, 1, 2] _ 3 3 _ (rdNewI w [0, 1, 2] 3) (by omega))
  have HB := Lib.hid (below_new w (.cells (([0, 1, 2] : List Int).map (Value.int .i64)).toArray 3))
  go_enter Try.func45, Try.ntmps45
  go_wp2_with fail
  refine HC.out.mono ?_
  rintro e w2 ⟨⟨sb, tb, ab, ob, rfl, hx⟩, hb⟩
  have HX := Lib.hid hx
  have HB2 := Lib.hid (below_self HB.out hb)
  clear hx hb
  go_wp2_with fail
  go_ret
  exact ⟨⟨_, _, _, _, rfl, HX.out⟩, HB2.out⟩
set_option maxRecDepth 100000 in
theorem wkLeft_any (sos : Int) (w : World) : Calls Try.prog 50 #[.int .i64 sos] w fun e w' => (∃ sb tb ab ob, e = .returned (.func (.func 83) #[] #[.pointer (some ⟨sb, 0, none⟩), .pointer (some ⟨tb, 0, none⟩), .pointer (some ⟨ab, 0, none⟩), .pointer (some ⟨ob, 0, none⟩)]) ∧ NBox w' sb tb ab ob 0 0 sos [0, 1]) ∧ Below w.heap.size w w' := by
  have HC := Lib.hid (wkNumbersMk_any 0 0 sos [0, 1] _ 2 2 _ (rdNewI w [0, 1] 3) (by omega))
  have HB := Lib.hid (below_new w (.cells (([0, 1] : List Int).map (Value.int .i64)).toArray 3))
  go_enter Try.func50, Try.ntmps50
  go_wp2_with fail
  refine HC.out.mono ?_
  rintro e w2 ⟨⟨sb, tb, ab, ob, rfl, hx⟩, hb⟩
  have HX := Lib.hid hx
  have HB2 := Lib.hid (below_self HB.out hb)
  clear hx hb
  go_wp2_with fail
  go_ret
  exact ⟨⟨_, _, _, _, rfl, HX.out⟩, HB2.out⟩
set_option maxRecDepth 100000 in
set_option maxHeartbeats 4000000 in
theorem wkAll_any (A : Option Addr) (n c : Nat) (xs ys : List Int) (sos : Int) (w : World) (hs : carF sos = sos) (hy : wAll sos xs = ys) (hr : Rd w 1 A n (xs.map (Value.int .i64))) (hn : n ≤ 1000) :
    Calls Try.prog 21 #[.slice A n c, .int .i64 sos] w fun e w' => (∃ v, e = .returned v ∧ w'.ownsRow w.heap.size 3 1 v n (ys.map (Value.int .i64))) ∧ Below w.heap.size w w' := by
  have HR := Lib.hid hr
  have HY := Lib.hid hy
  clear hr hy
  go_enter Try.func21, Try.ntmps21
  go_wp2_with fail
  refine (wkMarksMk_any sos w).mono ?_
  rintro e w1 ⟨⟨s1, rfl, x1⟩, hb1⟩
  have X1 := Lib.hid x1
  have HB1 := Lib.hid hb1
  clear x1 hb1
  go_wp2_with fail
  refine (wkArabic_any sos w1).mono ?_
  rintro e w2 ⟨⟨s2, t2, a2, o2, rfl, x2⟩, hb2⟩
  have X1b := Lib.hid ((hb2.block _ (hp_lt X1.out)).trans X1.out)
  have X2 := Lib.hid x2
  have HB2 := Lib.hid (below_self HB1.out hb2)
  clear x2 hb2
  go_wp2_with fail
  refine (wkLeft_any sos w2).mono ?_
  rintro e w3 ⟨⟨s3, t3, a3, o3, rfl, x3⟩, hb3⟩
  have X1c := Lib.hid ((hb3.block _ (hp_lt X1b.out)).trans X1b.out)
  have X2b := Lib.hid (X2.out.below hb3)
  have X3 := Lib.hid x3
  have HB3 := Lib.hid (below_self HB2.out hb3)
  clear x3 hb3
  obtain ⟨Q, hQ⟩ : ∃ Q : List StepQ, Q = [(70, #[.pointer (some ⟨s1, 0, none⟩)], wk1 sos), (83, #[.pointer (some ⟨s2, 0, none⟩), .pointer (some ⟨t2, 0, none⟩), .pointer (some ⟨a2, 0, none⟩), .pointer (some ⟨o2, 0, none⟩)], wkN 6 2 [0, 1, 2] sos), (46, #[], wk3), (47, #[], wk4), (48, #[], fun l => bE (fE 0 l)), (49, #[], wk6), (83, #[.pointer (some ⟨s3, 0, none⟩), .pointer (some ⟨t3, 0, none⟩), .pointer (some ⟨a3, 0, none⟩), .pointer (some ⟨o3, 0, none⟩)], wkN 0 0 [0, 1] sos)] := ⟨_, rfl⟩
  have hb4 := below_new w3 (.cells (Q.map stV).toArray 74)
  have HD : Hid (doneF Q xs = ys) := Lib.hid (by
    rw [hQ, ← HY.out]
    unfold doneF wAll
    simp only [List.foldl_cons, List.foldl_nil, wkN_two, wkN_seven, terms_eq])
  have HC := Lib.hid (wkAfter_any A _ n c 7 7 xs Q (w3.alloc (.cells (Q.map stV).toArray 74)) ((HR.out.below HB3.out).below hb4) (by have := Rd.new_ w3 (Q.map stV) 74; rwa [List.length_map, show Q.length = 7 by rw [hQ]; rfl] at this) (by
    intro q hq
    rw [hQ] at hq
    simp only [List.mem_cons, List.not_mem_nil, or_false] at hq
    rcases hq with rfl | rfl | rfl | rfl | rfl | rfl | rfl
    · exact stMarks hs ((hb4.block _ (hp_lt X1c.out)).trans X1c.out)
    · exact stNumbers (X2b.out.below hb4)
    · exact stLetters _
    · exact stSeparators _
    · exact stTerminators _
    · exact stOthers _
    · exact stNumbers (X3.out.below hb4)) hn (by omega))
  have HB4 := Lib.hid (below_self HB3.out hb4)
  have HSZ : Hid (w.heap.size ≤ (w3.alloc (.cells (Q.map stV).toArray 74)).heap.size) := Lib.hid HB4.out.size
  rw [HD.out] at HC
  rw [hQ] at HC HB4 HSZ
  simp only [List.map_cons, List.map_nil, stV] at HC HB4 HSZ
  clear hb4 hQ HD
  go_wp2_with fail
  refine HC.out.mono ?_
  rintro e w5 ⟨⟨v, rfl, hown⟩, hb5⟩
  have HO := Lib.hid (own_base hown HSZ.out)
  have HB5 := Lib.hid (below_self HB4.out hb5)
  clear hown hb5
  go_wp2_with fail
  go_ret
  exact ⟨⟨_, rfl, HO.out⟩, HB5.out⟩
end Go.Proofs.Ytnmpoipakmjbpaa
