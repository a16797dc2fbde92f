/- digit's exchange and Text, walked. -/
import Derived.Test.YtanngknhbgcobaaDgP2
import Derived.Test.YtanngknhbgcobaaCloneI
import Derived.Test.YtanngknhbgcobaaMem2
namespace Go.Proofs.Ytanngknhbgcobaa
open Go.RowKit

/-- What a call of the closure wants, and leaves. -/
structure Turner (w0 W : World) (lo : Nat) (g : FuncId) (lb : Array Value) (xs ys : List Int) (L : List Nat) (I : Nat → World → Prop) : Prop where
  eg : ∀ args w, (callFunc g args).run Try.prog w = .ok (.enter g args) w
  first : I 0 W
  far : ∀ x ∈ L, lo ≤ x
  stays : ∀ k A B S, I k A → Kept A B S → (∀ x ∈ S, w0.heap.size ≤ x ∧ x < lo) → I k B
  call : ∀ k x A, xs[k]? = some x → I k A → Calls Try.prog g (#[.int .i64 x] ++ lb) A fun e B => (∃ y, ys[k]? = some y ∧ e = .returned (.int .i64 y)) ∧ I (k + 1) B ∧ Kept A B L
theorem box4 (w : World) (o0 o1 o2 o3 : Obj) : ((((w.alloc o0).alloc o1).alloc o2).alloc o3).heap[w.heap.size]? = some o0 ∧ ((((w.alloc o0).alloc o1).alloc o2).alloc o3).heap[w.heap.size + 1]? = some o1 ∧ ((((w.alloc o0).alloc o1).alloc o2).alloc o3).heap[w.heap.size + 2]? = some o2 ∧ ((((w.alloc o0).alloc o1).alloc o2).alloc o3).heap[w.heap.size + 3]? = some o3 ∧ Below w.heap.size w ((((w.alloc o0).alloc o1).alloc o2).alloc o3) := by
  have hk : Below w.heap.size w ((((w.alloc o0).alloc o1).alloc o2).alloc o3) :=
    ((((Below.refl _ _).alloc (Nat.le_refl _) _).alloc (by simp) _).alloc (by simp; omega) _).alloc (by simp; omega) _
  generalize hA : w.alloc o0 = wa at *
  generalize hB : wa.alloc o1 = wb at *
  generalize hC : wb.alloc o2 = wc at *
  generalize hD : wc.alloc o3 = wd at *
  have sa : wa.heap.size = w.heap.size + 1 := by rw [← hA, World.size_alloc]
  have sb : wb.heap.size = w.heap.size + 2 := by rw [← hB, World.size_alloc, sa]
  have sc : wc.heap.size = w.heap.size + 3 := by rw [← hC, World.size_alloc, sb]
  have oa : ∀ {k o}, k < wa.heap.size → wa.heap[k]? = some o → wb.heap[k]? = some o := fun hk h => by rw [← hB, heap_alloc_old (h := hk)]; exact h
  have ob : ∀ {k o}, k < wb.heap.size → wb.heap[k]? = some o → wc.heap[k]? = some o := fun hk h => by rw [← hC, heap_alloc_old (h := hk)]; exact h
  have oc : ∀ {k o}, k < wc.heap.size → wc.heap[k]? = some o → wd.heap[k]? = some o := fun hk h => by rw [← hD, heap_alloc_old (h := hk)]; exact h
  refine ⟨oc (by omega) (ob (by omega) (oa (by omega) ?_)), oc (by omega) (ob (by omega) ?_), oc (by omega) ?_, ?_, hk⟩
  · rw [← hA]; exact heap_alloc_new _ _
  · rw [← sa, ← hB]; exact heap_alloc_new _ _
  · rw [← sb, ← hC]; exact heap_alloc_new _ _
  · rw [← sc, ← hD]; exact heap_alloc_new _ _
/-- What exchange answers. -/
def ExAns (w w' : World) (b : Nat) (mode : Int) (ea : Bool) (e : Ending) : Prop :=
  (((mode = 1 ∨ mode = 2) ∧ e = .returned (.func (.func 15) #[] #[.pointer (some ⟨w.heap.size + 1, 0, none⟩), .pointer (some ⟨w.heap.size + 2, 0, none⟩)]) ∧ w'.heap[w.heap.size + 1]? = some (.cells #[.int .i64 mode] 3 (0, 0)) ∧ w'.heap[w.heap.size + 2]? = some (.cells #[.bool ea] 4 (0, 0))) ∨
  ((mode = 3 ∨ mode = 4) ∧ e = .returned (.func (.func 16) #[] #[.pointer (some ⟨w.heap.size, 0, none⟩), .pointer (some ⟨w.heap.size + 3, 0, none⟩), .pointer (some ⟨w.heap.size + 2, 0, none⟩)]) ∧ DBox w w' w.heap.size (w.heap.size + 3) (w.heap.size + 2) b (decide (mode = 4)) ea) ∨
  (¬ (mode = 1 ∨ mode = 2) ∧ ¬ (mode = 3 ∨ mode = 4) ∧ e = .returned (.func (.func 19) #[] #[]))) ∧ Below w.heap.size w w'
set_option maxRecDepth 100000 in
set_option maxHeartbeats 2000000 in
theorem dgExchange_any (b : Nat) (mode : Int) (ea : Bool) (w : World) (hP : PropAt w b) :
    Calls Try.prog 12 #[.pointer (some ⟨b, 0, none⟩), .int .i64 mode, .bool ea] w fun e w' => ExAns w w' b mode ea e := by
  obtain ⟨b0, b1, b2, b3, hb⟩ := box4 w (.cells #[.pointer (some ⟨b, 0, none⟩)] 25) (.cells #[.int .i64 mode] 3) (.cells #[.bool ea] 4) (.cells #[.bool false] 4)
  have HB := Lib.hid hb
  have HD := Lib.hid (DBox.mk b0 b3 b2 (hP.below hb) hb)
  have HM := Lib.hid b1
  have HE := Lib.hid b2
  have HP := Lib.hid hP
  have c3 := hp_cell (j := 0) b3 rfl
  have f3 := hp_froz b3 0
  clear hP hb b0 b1 b2 b3
  by_cases h1 : mode = 1
  · subst h1
    go_enter Try.func12, Try.ntmps12
    go_wp2
    go_ret
    exact ⟨.inl ⟨.inl rfl, rfl, HM.out, HE.out⟩, HB.out⟩
  by_cases h2 : mode = 2
  · subst h2
    go_enter Try.func12, Try.ntmps12
    go_wp2
    go_ret
    exact ⟨.inl ⟨.inr rfl, rfl, HM.out, HE.out⟩, HB.out⟩
  by_cases h3 : mode = 3
  · subst h3
    go_enter Try.func12, Try.ntmps12
    go_wp2
    go_ret
    exact ⟨.inr (.inl ⟨.inl rfl, rfl, HD.out⟩), HB.out⟩
  by_cases h4 : mode = 4
  · subst h4
    obtain ⟨t0, t1, t2, t3, tb⟩ := box4 w (.cells #[.pointer (some ⟨b, 0, none⟩)] 25) (.cells #[.int .i64 4] 3) (.cells #[.bool ea] 4) (.cells #[.bool true] 4)
    have HS := Lib.hid (show DBox w _ w.heap.size (w.heap.size + 3) (w.heap.size + 2) b (decide ((4 : Int) = 4)) ea from DBox.mk t0 t3 t2 (HP.out.below tb) tb)
    clear t0 t1 t2 t3 tb
    go_enter Try.func12, Try.ntmps12
    go_wp2
    go_ret
    exact ⟨.inr (.inl ⟨.inr rfl, rfl, HS.out⟩), HS.out.low⟩
  · have g1 : (mode == 1) = false := by simp [h1]
    have g2 : (mode == 2) = false := by simp [h2]
    have g3 : (mode == 3) = false := by simp [h3]
    have g4 : (mode == 4) = false := by simp [h4]
    have HN := Lib.hid (And.intro (show ¬ (mode = 1 ∨ mode = 2) by omega) (show ¬ (mode = 3 ∨ mode = 4) by omega))
    clear h1 h2 h3 h4
    go_enter Try.func12, Try.ntmps12
    go_wp2
    go_ret
    exact ⟨.inr (.inr ⟨HN.out.1, HN.out.2, rfl⟩), HB.out⟩
theorem dCtx_at (e : Bool) : ∀ (l : List Int) (am : Bool) (k : Nat) (x : Int), l[k]? = some x → (dCtx e am l)[k]? = some (dPick (dAm (dAms am (l.take k)) x) x e)
  | [], _, _, _, h => by simp at h
  | c :: l, am, 0, x, h => by
    simp only [List.getElem?_cons_zero, Option.some.injEq] at h
    subst h
    simp [dCtx, dAms]
  | c :: l, am, k + 1, x, h => by
    have := dCtx_at e l (dAm am c) k x (by simpa using h)
    simpa [dCtx, dAms] using this
theorem dAms_step {am : Bool} {l : List Int} {k : Nat} {x : Int} (h : l[k]? = some x) : dAms am (l.take (k + 1)) = dAm (dAms am (l.take k)) x := by
  rw [List.take_add_one, h, Option.toList_some, dAms_snoc]
/-- What exchange answers turns codes as the mode says. -/
theorem turner_of {w0 W W' : World} {b : Nat} {mode : Int} {ea : Bool} {e : Ending} (xs : List Int) (h : ExAns W W' b mode ea e) (hb0 : Below w0.heap.size w0 W) (hP : PropAt w0 b) :
    ∃ g lb L I, e = .returned (.func (.func g) #[] lb) ∧ Turner w0 W' W.heap.size g lb xs (dText mode ea xs) L I := by
  have hb := h.2
  rcases h.1 with ⟨hm, rfl, h1, h2⟩ | ⟨hm, rfl, hD⟩ | ⟨hm, hm2, rfl⟩
  · refine ⟨_, _, [], fun _ A => A.heap[W.heap.size + 1]? = some (.cells #[.int .i64 mode] 3 (0, 0)) ∧ A.heap[W.heap.size + 2]? = some (.cells #[.bool ea] 4 (0, 0)), rfl, ⟨enters_of Try.func15 (by kernel_rfl) rfl, ⟨h1, h2⟩, by simp, ?_, ?_⟩⟩
    · rintro k A B S ⟨i1, i2⟩ hk hs
      exact ⟨hk.heap i1 (fun m => by have := (hs _ m).2; omega), hk.heap i2 (fun m => by have := (hs _ m).2; omega)⟩
    · rintro k x A hx ⟨i1, i2⟩
      refine (dgEx1_any x mode ea _ _ A i1 i2).mono ?_
      rintro r B ⟨rfl, hB⟩
      refine ⟨⟨_, ?_, rfl⟩, ⟨(hB.block _ (hp_lt i1)).trans i1, (hB.block _ (hp_lt i2)).trans i2⟩, Kept.of_below hB _⟩
      unfold dText
      rw [if_pos hm, List.getElem?_map, hx]; rfl
  · refine ⟨_, _, [W.heap.size + 3], fun k A => DBox w0 A W.heap.size (W.heap.size + 3) (W.heap.size + 2) b (dAms (decide (mode = 4)) (xs.take k)) ea, rfl, ⟨enters_of Try.func16 (by kernel_rfl) rfl, ?_, by simp, ?_, ?_⟩⟩
    · exact ⟨hD.hp, hD.ha, hD.he, hD.pr, below_self hb0 hb⟩
    · intro k A B S i hk hs
      have hlt : w0.heap.size ≤ A.heap.size := i.low.size
      exact ⟨hk.heap i.hp (fun m => by have := (hs _ m).2; omega), hk.heap i.ha (fun m => by have := (hs _ m).2; omega), hk.heap i.he (fun m => by have := (hs _ m).2; omega), hP.below (hk.lower i.low hlt fun x hx => (hs x hx).1), hk.lower i.low hlt fun x hx => (hs x hx).1⟩
    · intro k x A hx i
      refine (dgEx2_any x _ ea _ _ _ b w0 A i hP (by omega) (by omega) (by have := hb0.size; omega)).mono ?_
      rintro r B ⟨rfl, i2, hk⟩
      refine ⟨⟨_, ?_, rfl⟩, ?_, hk⟩
      · unfold dText
        rw [if_neg (by omega), if_pos hm, dCtx_at ea xs _ k x hx]
      · simp only [dAms_step hx]
        exact i2
  · refine ⟨_, _, [], fun _ _ => True, rfl, ⟨enters_of Try.func19 (by kernel_rfl) rfl, trivial, by simp, fun _ _ _ _ _ _ _ => trivial, ?_⟩⟩
    intro k x A hx _
    refine (dgEx3_any x A).mono ?_
    rintro r B ⟨rfl, rfl⟩
    refine ⟨⟨_, ?_, rfl⟩, trivial, Kept.refl _ _⟩
    unfold dText
    rw [if_neg hm, if_neg hm2, hx]
theorem mix_len {xs ys : List Int} {n k : Nat} (hx : xs.length = n) (hy : ys.length = n) (hk : k ≤ n) : (ys.take k ++ xs.drop k).length = n := by simp; omega
theorem mix_at {xs ys : List Int} {k n : Nat} {x : Int} (hy : ys.length = n) (hk : k < n) (h : xs[k]? = some x) : (ys.take k ++ xs.drop k)[k]? = some x := by
  rw [List.getElem?_append_right (by simp; omega), List.length_take, List.getElem?_drop, show min k ys.length = k by omega]
  simpa using h
theorem mix_set {xs ys : List Int} {k n : Nat} {x y : Int} (hy : ys.length = n) (hk : k < n) (h : xs[k]? = some x) (h2 : ys[k]? = some y) : (ys.take k ++ xs.drop k).set k y = ys.take (k + 1) ++ xs.drop (k + 1) := by
  rw [List.set_append_right _ _ (by simp; omega), List.length_take, show min k ys.length = k by omega, Nat.sub_self, dropCons h, List.set_cons_zero, List.take_add_one, h2]
  simp
set_option maxRecDepth 100000 in
set_option maxHeartbeats 4000000 in
theorem dgText_any (b : Nat) (mode : Int) (ea : Bool) (A : Option Addr) (n c : Nat) (xs : List Int) (w : World) (hP : PropAt w b) (hr : Rd w 1 A n (xs.map (Value.int .i64))) (hn : n ≤ 100000) :
    Calls Try.prog 6 #[.pointer (some ⟨b, 0, none⟩), .slice A n c, .int .i64 mode, .bool ea] w fun e w' => (∃ v, e = .returned v ∧ w'.ownsRow w.heap.size 3 1 v n ((dText mode ea xs).map (Value.int .i64))) ∧ Below w.heap.size w w' := by
  have hlen : xs.length = n := by simpa using hr.len1
  have HL := Lib.hid hlen
  have HCL := Lib.hid (cloneInt_any A n c (xs.map (Value.int .i64)) w hr (oneInts _ _) (by omega))
  have HP := Lib.hid hP
  obtain ⟨ys, hys⟩ : ∃ ys, dText mode ea xs = ys := ⟨_, rfl⟩
  have HYS := Lib.hid hys
  have HY := Lib.hid (show ys.length = n by rw [← hys, dText_len, hlen])
  rw [hys]
  clear hlen hr hP hys
  go_enter Try.func6, Try.ntmps6
  go_wp2_with fail
  refine HCL.out.mono ?_
  rintro e w1 ⟨v, rfl, hown, hb1⟩
  have HO1 := Lib.hid hown
  have HB1 := Lib.hid hb1
  clear hown hb1
  go_wp2_with fail
  refine (dgExchange_any b mode ea w1 (HP.out.below HB1.out)).mono ?_
  intro e w2 hE
  have HE2 := Lib.hid hE.2
  obtain ⟨g, lb, L, I, rfl, hT⟩ := turner_of xs hE HB1.out HP.out
  rw [HYS.out] at hT
  have HT := Lib.hid hT
  have HO2 := Lib.hid (own_below HO1.out HE2.out)
  have HB2 := Lib.hid (below_self HB1.out HE2.out)
  have eg := hT.eg
  obtain ⟨V, cv, rfl, hcv⟩ := own_form HO2.out
  clear hE hT
  go_wp2_with fail
  go_loopw [21] (fun i wr => ∃ k : Nat, k ≤ n ∧ i = .int .i64 k ∧ I k wr ∧ wr.ownsRow w.heap.size 3 1 (.slice V n cv) n ((ys.take k ++ xs.drop k).map (Value.int .i64)) ∧ Below w.heap.size w wr ∧ w1.heap.size ≤ wr.heap.size) (fun i _ => n - (intOf i).toNat)
  case atStart => exact ⟨0, Nat.zero_le _, rfl, HT.out.first, by simpa using HO2.out, HB2.out, HE2.out.size⟩
  case round =>
    obtain ⟨k, hk, rfl, hI, hown, hb, hsz⟩ := hrel
    have HB := Lib.hid hb
    have HO := Lib.hid hown
    have HSZ := Lib.hid hsz
    clear hb hsz
    by_cases hlt : k < n
    · obtain ⟨x, hxk⟩ : ∃ x, xs[k]? = some x := ⟨_, List.getElem?_eq_getElem (by rw [HL.out]; exact hlt)⟩
      obtain ⟨gv, cg, hv, hng, hglt, hbg, hcells⟩ := own_at hown (by omega)
      simp only [Value.slice.injEq] at hv
      obtain ⟨rfl, _, rfl⟩ := hv
      have hcx : wr.cell? ⟨gv, k, none⟩ = some (.int .i64 x) := hcells k _ (by rw [List.getElem?_map, mix_at HY.out hlt hxk]; rfl)
      have hcall := HT.out.call k x wr hxk hI
      have HX := Lib.hid hxk
      clear hxk hcells hown
      have hgl : gv < w1.heap.size := (HO1.out.lt gv rfl).2
      have hgw : w.heap.size ≤ gv := (HO1.out.lt gv rfl).1
      go_wp2_with (go_at_fn g; refine hcall.mono ?_; rintro e w4 ⟨⟨y, hyk, rfl⟩, hI4, hk4⟩; have hown4 := own_keptG HO.out hk4 (fun hm => by have := HT.out.far gv hm; omega); have c4 := (own_slot hown4 (j := k) (by omega)).1; have f4 := (own_slot hown4 (j := k) (by omega)).2; obtain ⟨u4, c4⟩ := c4)
      all_goals
        have hb4 : Below w.heap.size w w4 := hk4.lower HB.out (by have := HSZ.out; have := HB1.out.size; omega) (fun z hz => by have := HT.out.far z hz; have := HB1.out.size; omega)
        have HB4 := Lib.hid (hb4.setCell (p := ⟨gv, k, none⟩) hgw (.int .i64 y))
        have HO4 := Lib.hid (hown4.stored k (.int .i64 y)).1
        have HI4 := Lib.hid (HT.out.stays (k + 1) _ _ [gv] hI4 ((Kept.refl w4 [gv]).set (.inl (List.mem_singleton_self _)) k (.int .i64 y)) (by simp; omega))
        have HYK := Lib.hid hyk
        have HS4 := Lib.hid (show w1.heap.size ≤ (w4.setCell ⟨gv, k, none⟩ (.int .i64 y)).heap.size by have := HSZ.out; have := hk4.size; simp [World.setCell]; omega)
        clear hb4 hI4 hk4 hown4 c4 f4 hyk
        go_roundw
        case rel =>
          refine ⟨k + 1, by omega, by go_num, HI4.out, ?_, HB4.out, HS4.out⟩
          have := HO4.out
          rwa [← List.map_set, mix_set HY.out hlt HX.out HYK.out] at this
        case measure => simp [intOf]; omega
    · have hkn : k = n := by omega
      have HE := Lib.hid (show wr.ownsRow w.heap.size 3 1 (.slice V n cv) n (ys.map (Value.int .i64)) by
        have := HO.out
        rwa [hkn, List.take_of_length_le (by rw [HY.out]; exact Nat.le_refl _), List.drop_eq_nil_of_le (by rw [HL.out]; exact Nat.le_refl _), List.append_nil] at this)
      clear hown hI
      go_wp2
      go_ret
      exact ⟨⟨_, rfl, HE.out⟩, HB.out⟩
end Go.Proofs.Ytanngknhbgcobaa
