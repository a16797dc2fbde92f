/- Texts of one claim, one behind the other. -/
import Derived.Shelf.SlSortCmp.NoneTotal
import Derived.Test.YtcbiaeeifclieaaGreatDoorMgM1
import Derived.Test.YtcbiaeeifclieaaGreatDoorMgM2
import Derived.Test.YtcbiaeeifclieaaGreatDoorMgM3
import Derived.Test.YtcbiaeeifclieaaGreatDoorMgM10
import Derived.Test.YtcbiaeeifclieaaGreatDoorMgM11
/- A row of the call's own, handed to the sort's contracts and taken back: no function of the program. -/
namespace Go.Proofs.YtcbiaeeifclieaaGreatDoor
open Go.RowKit Go.Shelf

section
variable {α : Type} [Inhabited α] {enc : α → List Value} {k : Nat}
theorem flatK_get (hk : ∀ x, (enc x).length = k) (d : Array α) {j : Nat} {u : Value} (h : (d.toList.flatMap enc)[j]? = some u) : (Sort.flatK enc k d)[j]! = u := by
  obtain ⟨i, c, s, rfl, hc, hi, hu⟩ := flatMap_at enc k hk h
  have hil : i < d.size := by simpa using (List.getElem?_eq_some_iff.1 hi).1
  have hlt : i * k + c < d.size * k := by
    have := Nat.mul_le_mul_right k (show i + 1 ≤ d.size from hil)
    rw [Nat.add_mul, Nat.one_mul] at this
    omega
  have k0 : 0 < k := by omega
  have e1 : (i * k + c) / k = i := by
    rw [Nat.mul_comm, Nat.mul_add_div k0, Nat.div_eq_of_lt hc, Nat.add_zero]
  have e2 : (i * k + c) % k = c := by
    rw [Nat.mul_comm, Nat.mul_add_mod, Nat.mod_eq_of_lt hc]
  rw [Sort.get_flatK _ _ _ _ hlt, e1, e2]
  have hs : d[i]! = s := by
    rw [getElem!_pos d i hil]
    have := (List.getElem?_eq_some_iff.1 hi).2
    simpa using this
  rw [hs]
  have hcl : c < (enc s).length := by rw [hk]; exact hc
  rw [getElem!_pos _ c hcl]
  exact (List.getElem?_eq_some_iff.1 hu).2
theorem flatK_list (hk : ∀ x, (enc x).length = k) (d : Array α) : (Sort.flatK enc k d).toList = d.toList.flatMap enc := by
  apply List.ext_getElem?
  intro j
  by_cases h : j < d.size * k
  · have hl : j < (d.toList.flatMap enc).length := by rw [flatMap_len enc k hk]; simpa using h
    have := flatK_get hk d (List.getElem?_eq_getElem hl)
    rw [List.getElem?_eq_getElem hl, ← this, getElem!_pos _ j (by simpa using h)]
    rw [List.getElem?_eq_getElem (by simpa using h)]
    simp
  · rw [List.getElem?_eq_none (by simpa using h), List.getElem?_eq_none (by rw [flatMap_len enc k hk]; simpa using h)]
theorem holds_of_own (hk : ∀ x, (enc x).length = k) {w : World} {base : Nat} {e : TypeId} {g n cap : Nat} (d : Array α) (hd : d.size = n) (h : w.ownsRow base e k (.slice (some ⟨g, 0, none⟩) n cap) n (d.toList.flatMap enc)) : Sort.HoldsK enc k w g 0 d := by
  intro j hj
  rw [Sort.size_flatK, hd] at hj
  have hl : j < (d.toList.flatMap enc).length := by rw [flatMap_len enc k hk]; simpa [hd] using hj
  have hc := h.cellAt j hj
  rw [List.getElem?_eq_getElem hl] at hc
  refine ⟨?_, by rw [Nat.zero_add]; exact h.frozenAt j⟩
  rw [Nat.zero_add, hc, flatK_get hk d (List.getElem?_eq_getElem hl)]
  rfl
theorem grow_grown (w : World) (os : Array Obj) (row : Option Nat) : w.grownBy (Sort.grow w os) row :=
  ⟨rfl, rfl, rfl, by simp, fun i hi _ => by show (w.heap ++ os)[i]? = _; rw [Array.getElem?_append_left hi]⟩
theorem mapBlock_grown (w : World) (g : Nat) (f : Array Value → Array Value) : w.grownBy (Sort.mapBlock w g f) (some g) :=
  ⟨rfl, rfl, rfl, by simp [Sort.mapBlock], fun i _ hne => by
    show (w.heap.modify g _)[i]? = _
    rw [Array.getElem?_modify, if_neg (fun e => hne (by rw [e]))]⟩
theorem grown_trans {a b c : World} {row : Option Nat} (h : a.grownBy b row) (h' : b.grownBy c row) : a.grownBy c row :=
  ⟨h'.os.trans h.os, h'.tape.trans h.tape, h'.output.trans h.output, Nat.le_trans h.size h'.size, fun i hi hne => (h'.block i (Nat.lt_of_lt_of_le hi h.size) hne).trans (h.block i hi hne)⟩
/-- The row behind the sort: the call's own still, with the new elements. -/
theorem own_of_sorted (hk : ∀ x, (enc x).length = k) {w : World} {base : Nat} {e : TypeId} {g n cap : Nat} {xs : List Value} (h : w.ownsRow base e k (.slice (some ⟨g, 0, none⟩) n cap) n xs) (m : Nat) (dk : Array α) (os : Array Obj) (hd : dk.size = n) :
    (sortWorldK enc k w g 0 m dk os).ownsRow base e k (.slice (some ⟨g, 0, none⟩) n cap) n (dk.toList.flatMap enc) ∧ w.grownBy (sortWorldK enc k w g 0 m dk os) (some g) := by
  have hg1 : w.grownBy (Sort.ahead w m) (some g) := ⟨rfl, rfl, rfl, Nat.le_refl _, fun _ _ _ => rfl⟩
  have hg2 := grown_trans hg1 (mapBlock_grown (Sort.ahead w m) g (Sort.putCells id 0 (Sort.flatK enc k dk)))
  have hg3 := grown_trans hg2 (grow_grown (Sort.putRowK enc k (Sort.ahead w m) g 0 dk) os (some g))
  refine ⟨?_, hg3⟩
  rcases h.2 with ⟨h', _⟩ | ⟨g', cap', cur, h', hb, hg, hnc, hcm, hcs, htake⟩
  · simp at h'
  · simp only [Value.slice.injEq, Option.some.injEq, Addr.mk.injEq, and_true, true_and] at h'
    obtain ⟨rfl, rfl⟩ := h'
    have hlt := (Array.getElem?_eq_some_iff.1 hg).1
    refine ⟨by rw [flatMap_len enc k hk]; simp [hd], .inr ⟨g, cap, Sort.putCells id 0 (Sort.flatK enc k dk) cur, rfl, hb, ?_, hnc, hcm, by simp [Sort.putCells, hcs], ?_⟩⟩
    · show ((Sort.putRowK enc k (Sort.ahead w m) g 0 dk).heap ++ os)[g]? = _
      rw [Array.getElem?_append_left (by show g < (w.heap.modify g _).size; simpa using hlt)]
      show (w.heap.modify g _)[g]? = _
      rw [Array.getElem?_modify, if_pos rfl, hg]
      first | done | rfl
    · apply List.ext_getElem?
      intro j
      have hle : n * k ≤ cur.size := by rw [hcs]; exact Nat.mul_le_mul_right k hnc
      by_cases hj : j < n * k
      · have hl : j < (dk.toList.flatMap enc).length := by rw [flatMap_len enc k hk]; simpa [hd] using hj
        rw [List.getElem?_take, if_pos hj, Array.getElem?_toList]
        rw [List.getElem?_eq_getElem hl]
        unfold Sort.putCells
        rw [Array.getElem?_mapIdx, Array.getElem?_eq_getElem (by omega), Option.map_some, if_pos ⟨Nat.zero_le _, by rw [Sort.size_flatK, hd]; omega⟩, Nat.sub_zero, flatK_get hk dk (List.getElem?_eq_getElem hl)]
        rfl
      · rw [List.getElem?_eq_none (by simp; omega), List.getElem?_eq_none (by rw [flatMap_len enc k hk]; simp [hd]; omega)]
end
end Go.Proofs.YtcbiaeeifclieaaGreatDoor
/- slices.SortFunc at spans, by their Lo: the row of the call's own holds a permutation, sorted. -/
namespace Go.Proofs.YtcbiaeeifclieaaGreatDoor
open Go.RowKit Go.Shelf

def cmpLo (a b : Sp) : Int := cmpI a.1 b.1
theorem cmpI_lt (x y : Int) : decide (cmpI x y < 0) = decide (x < y) := by
  unfold cmpI
  split
  · rename_i h; simp [h]
  · rename_i h
    split <;> simp [h]
theorem ltLo (a b : Sp) : ltOf cmpLo a b = decide (a.1 < b.1) := cmpI_lt _ _
theorem swoLo : Sort.SWO (ltOf cmpLo) where
  irrefl x := by simp [ltLo]
  trans x y z h1 h2 := by simp [ltLo] at *; omega
  ntrans x y z h1 h2 := by simp [ltLo] at *; omega
theorem perm_of_in {d d' : Array Sp} (h : Sort.PermIn 0 d.size d d') : d'.toList.Perm d.toList ∧ d'.size = d.size := by
  obtain ⟨h1, _, h3⟩ := h
  have e1 : d'.extract 0 d.size = d' := by rw [← h1, Array.extract_size]
  have e2 : d.extract 0 d.size = d := Array.extract_size
  rw [e1, e2] at h3
  exact ⟨h3, h1⟩
theorem sorted_of_in {d : Array Sp} {n : Nat} (hn : d.size = n) (h : Sort.SortedIn (ltOf cmpLo) 0 n d) : LoSorted d.toList := by
  subst hn
  unfold LoSorted
  rw [List.pairwise_iff_getElem]
  intro i j hi hj hij
  have := h i j (Nat.zero_le _) hij (by simpa using hj)
  rw [ltLo, getElem!_pos d i (by simpa using hi), getElem!_pos d j (by simpa using hj)] at this
  have := of_decide_eq_false this
  simp only [Array.getElem_toList]
  omega
/-- What a comparison handed to the sort owes: of any two spans it tells how their Lo stand, in any world; it may lay blocks. -/
def CmpLoAt (g : FuncId) : Prop := ∀ (x y : Sp) (w : World), Calls Tryz.prog g #[.agg #[.int .i64 x.1, .int .i64 x.2], .agg #[.int .i64 y.1, .int .i64 y.2]] w fun e w' => e = .returned (.int .i64 (cmpLo x y)) ∧ ∃ os, w' = Sort.grow w os

theorem sortS_any (f : FuncId) (eg : ∀ args w, (callFunc f args).run Tryz.prog w = .ok (.enter f args) w) (hf : CmpLoAt f) {base g n cap : Nat} {l : List Sp} {w : World} (hown : w.ownsRow base 39 2 (.slice (some ⟨g, 0, none⟩) n cap) n (cellsS l)) (hn : n < 4611686018427387904) :
    Calls Tryz.prog 118 #[.slice (some ⟨g, 0, none⟩) n cap, .func (.func f) #[] #[]] w fun e w' => e = .returned (.tuple #[]) ∧ ∃ l', List.Perm l' l ∧ LoSorted l' ∧ w'.ownsRow base 39 2 (.slice (some ⟨g, 0, none⟩) n cap) n (cellsS l') ∧ w.grownBy w' (some g) := by
  have hl : l.length = n := by have := hown.1; rw [cellsS_len] at this; omega
  have hd : l.toArray.size = n := by simpa using hl
  have hH := holds_of_own (enc := encS) (k := 2) (fun _ => rfl) l.toArray hd hown
  have hlt := (hown.lt g rfl).2
  have hsize : (l.toArray : Array Sp).size < 4611686018427387904 := by omega
  have hcmp : CmpLays Tryz.prog f #[] encS 2 cmpLo g 0 l.toArray.size w := by
    intro m os dk _ x y
    refine (hf x y _).mono fun e w' ⟨he, os', hw⟩ => ⟨he, 0, os', hw⟩
  have h := AnyQ.slices_SortFunc sortS_lays 2 Tryz.isAgg39 Tryz.sizeOf39 encS (fun _ => rfl) (fun x v hv => by
    simp [encS] at hv
    rcases hv with rfl | rfl <;> rfl) cmpLo swoLo f #[] g 0 cap l.toArray w eg hcmp hH hlt hsize
  rw [hd] at h
  refine Calls.mono h ?_
  rintro e w' ⟨he, d', m, os, hp, hs, rfl⟩
  have hp' := perm_of_in (d := l.toArray) (d' := d') (by rw [hd]; exact hp)
  have hd' : d'.size = n := by omega
  obtain ⟨ho, hgr⟩ := own_of_sorted (enc := encS) (k := 2) (fun _ => rfl) hown m d' os hd'
  exact ⟨he, d'.toList, by simpa using hp'.1, sorted_of_in hd' hs, ho, hgr⟩
end Go.Proofs.YtcbiaeeifclieaaGreatDoor
/- The project's outs of clusters: their Out spans, sorted by Lo; and Check. -/
namespace Go.Proofs.YtcbiaeeifclieaaGreatDoor
open Go.RowKit

set_option maxRecDepth 100000 in
theorem outsLit_any : CmpLoAt 119 := by
  intro x y w
  obtain ⟨a, b⟩ := x
  obtain ⟨c, d⟩ := y
  go_enter Tryz.func119, Tryz.ntmps119
  go_wp2_with (go_at_call 120; refine (cmpI_any _ _ _).mono ?_; rintro e w' ⟨rfl, rfl⟩)
  go_ret
  exact ⟨rfl, _, by rw [Sort.alloc_eq_grow, Sort.alloc_eq_grow, Sort.grow_grow]⟩

theorem spanInfo : (Tryz.prog.info? 39).map (fun i => (i.zero, i.size, i.bytes)) = some (some (.agg #[.int .i64 0, .int .i64 0]), 2, 16) := by kernel_rfl

/-- A row while its first k elements are filled. -/
def fillS (l : List Sp) (k : Nat) : List Value := cellsS (l.take k) ++ List.replicate ((l.length - k) * 2) (.int .i64 0)
theorem fillS_start (l : List Sp) : fillS l 0 = List.replicate (l.length * 2) (.int .i64 0) := by simp [fillS, cellsS]
theorem fillS_end (l : List Sp) : fillS l l.length = cellsS l := by simp [fillS]
theorem fillS_step {l : List Sp} {k : Nat} {s : Sp} (h : l[k]? = some s) : ((fillS l k).set (k * 2) (.int .i64 s.1)).set (k * 2 + 1) (.int .i64 s.2) = fillS l (k + 1) := by
  have hlt := (List.getElem?_eq_some_iff.1 h).1
  have hc : (cellsS (l.take k)).length = k * 2 := by rw [cellsS_len, List.length_take]; omega
  have hs : cellsS (l.take (k + 1)) = cellsS (l.take k) ++ [.int .i64 s.1, .int .i64 s.2] := by rw [List.take_add_one, h]; simp [cellsS, encS]
  unfold fillS
  obtain ⟨m, hm⟩ : ∃ m, l.length - k = m + 1 := ⟨l.length - k - 1, by omega⟩
  have hm2 : l.length - (k + 1) = m := by omega
  rw [hm, hm2, hs, show (m + 1) * 2 = m * 2 + 1 + 1 by omega, List.replicate_succ, List.replicate_succ, List.set_append_right _ _ (by omega), hc, Nat.sub_self, List.set_cons_zero, List.set_append_right _ _ (by omega), hc, show k * 2 + 1 - k * 2 = 1 by omega]
  simp

set_option maxRecDepth 100000 in
set_option maxHeartbeats 2000000 in
theorem prOuts_any (A : Option Addr) (n c : Nat) (l : List Cl) (w : World) (hr : Rd w 4 A n (cellsC l)) (hn : n ≤ 1000000) :
    Calls Tryz.prog 101 #[.slice A n c] w fun e w' => ∃ v l', e = .returned v ∧ List.Perm l' (l.map Prod.snd) ∧ LoSorted l' ∧ w'.ownsRow w.heap.size 39 2 v n (cellsS l') ∧ Below w.heap.size w w' := by
  have hlen : l.length = n := by have := hr.1; rw [cellsC_len] at this; omega
  have hlm : (l.map Prod.snd).length = n := by simpa using hlen
  have HL := Lib.hid hlen
  have HM := Lib.hid hlm
  clear hlen hlm
  have eg : ∀ args w, (callFunc 119 args).run Tryz.prog w = .ok (.enter 119 args) w := enters_of Tryz.func119 (by kernel_rfl) rfl
  go_enter Tryz.func101, Tryz.ntmps101
  go_wp2_with (at_make; refine wpList_mkZ rfl _ _ _ rfl Tryz.underlying103 spanInfo (z0 := .int .i64 0) (by decide) (by intro j hj; match j, hj with | 0, _ => rfl | 1, _ => rfl) (base := w.heap.size) (kl := .i64) (kc := .i64) n n n rfl rfl rfl rfl (by omega) (by unfold maxLen; omega) (Nat.le_refl _) ?_; intro w1 hown hg1)
  have hb1 := below_make (w := w) (w' := w1) hg1
  have HO := Lib.hid (show w1.ownsRow w.heap.size 39 2 (.slice (some ⟨w.heap.size, 0, none⟩) n n) n (fillS (l.map Prod.snd) 0) by rw [fillS_start, HM.out]; exact hown)
  clear hown hg1
  go_loopw [11] (fun i wr => ∃ k : Nat, k ≤ n ∧ i = .int .i64 k ∧ wr.ownsRow w.heap.size 39 2 (.slice (some ⟨w.heap.size, 0, none⟩) n n) n (fillS (l.map Prod.snd) k) ∧ Below w.heap.size w wr) (fun i _ => n - (intOf i).toNat)
  case atStart => exact ⟨0, Nat.zero_le _, rfl, HO.out, hb1⟩
  case round =>
    obtain ⟨k, hk, rfl, hown, hbr⟩ := hrel
    clear HO hb1
    by_cases hlt : k < n
    · obtain ⟨s, hsk⟩ : ∃ s, l[k]? = some s := ⟨_, List.getElem?_eq_getElem (by rw [HL.out]; exact hlt)⟩
      obtain ⟨ad, rfl, hab, c1, c2, c3, c4⟩ := (hr.below hbr).clus hsk
      have HF := Lib.hid (fillS_step (l := l.map Prod.snd) (k := k) (s := s.2) (by rw [List.getElem?_map, hsk]; rfl))
      clear hsk
      obtain ⟨⟨s1, s2⟩, s3, s4⟩ := s
      simp only at c1 c2 c3 c4
      have ha := hown.alloc (.cells #[.int .i64 s1, .int .i64 s2, .int .i64 s3, .int .i64 s4] 41)
      obtain ⟨⟨u0, x0⟩, z0⟩ := own_slot ha (j := k * 2) (by omega)
      obtain ⟨⟨u1, x1⟩, z1⟩ := own_slot ha (j := k * 2 + 1) (by omega)
      have HS := Lib.hid (own_store2 ha (k * 2) (.int .i64 s3) (.int .i64 s4))
      have hbb := ((hbr.alloc hbr.size (.cells #[.int .i64 s1, .int .i64 s2, .int .i64 s3, .int .i64 s4] 41)).setCell (p := ⟨w.heap.size, k * 2, none⟩) (Nat.le_refl _) (.int .i64 s3)).setCell (p := ⟨w.heap.size, k * 2 + 1, none⟩) (Nat.le_refl _) (.int .i64 s4)
      go_wp2
      go_roundw
      case rel => exact ⟨k + 1, by omega, by go_num, by rw [← HF.out]; exact HS.out, hbb⟩
      case measure => simp [intOf]; omega
    · have HK := Lib.hid (show fillS (l.map Prod.snd) k = cellsS (l.map Prod.snd) by rw [show k = (l.map Prod.snd).length by rw [HM.out]; omega, fillS_end])
      rw [HK.out] at hown
      go_wp2_with fail
      refine (sortS_any _ eg outsLit_any hown (by omega)).mono ?_
      rintro e w2 ⟨rfl, l', hp, hs, hown2, hg2⟩
      have hb2 := hbr.grown hg2 hbr.size (fun k hk => by injection hk with hk; omega)
      go_wp2
      go_ret
      exact ⟨_, l', rfl, hp, hs, hown2, hb2⟩
end Go.Proofs.YtcbiaeeifclieaaGreatDoor
/- cluster's fit and covered, walked. -/
namespace Go.Proofs.YtcbiaeeifclieaaGreatDoor
open Go.RowKit

def fitC (n m : Int) (c : Cl) : Bool := rightB c.1 && decide (c.1.2 ≤ n) && (rightB c.2 && decide (c.2.2 ≤ m))
def fitN (n m : Int) : Bool := decide (0 ≤ n ∧ n ≤ 16777216 ∧ 0 ≤ m ∧ m ≤ 16777216)
def fitB (n m : Int) (l : List Cl) : Bool := fitN n m && l.all (fitC n m)
theorem all_split {l : List Cl} {k : Nat} {c : Cl} (f : Cl → Bool) (h : l[k]? = some c) : (l.drop k).all f = (f c && (l.drop (k + 1)).all f) := by
  rw [dropCons h]; rfl
set_option maxRecDepth 100000 in
set_option maxHeartbeats 2000000 in
theorem fit_any (n m : Int) (A : Option Addr) (q c : Nat) (l : List Cl) (w : World) (hr : Rd w 4 A q (cellsC l)) (hq : q ≤ maxLen) :
    Calls Tryz.prog 69 #[.int .i64 n, .int .i64 m, .slice A q c] w fun e w' => e = .returned (.bool (fitB n m l)) ∧ Below w.heap.size w w' := by
  have hlen : l.length = q := by have := hr.1; rw [cellsC_len] at this; omega
  have HL := Lib.hid hlen
  unfold maxLen at hq
  clear hlen
  by_cases hN : fitN n m = true
  · have HN := Lib.hid hN
    unfold fitN at hN
    simp at hN
    obtain ⟨n1, n2, n3, n4⟩ := hN
    go_enter Tryz.func69, Tryz.ntmps69
    go_wp2_with fail
    go_loopw [25] (fun i wr => ∃ k : Nat, k ≤ q ∧ i = .int .i64 (k : Int) ∧ fitB n m l = (l.drop k).all (fitC n m) ∧ Below w.heap.size w wr) (fun i _ => q - (intOf i).toNat)
    case atStart => exact ⟨0, Nat.zero_le _, rfl, by unfold fitB; rw [HN.out, List.drop_zero]; rfl, Below.refl _ _⟩
    case round =>
      obtain ⟨k, hk, rfl, hf, hb⟩ := hrel
      have HF := Lib.hid hf
      clear hf
      by_cases hlt : k < q
      · obtain ⟨x, hx⟩ : ∃ x, l[k]? = some x := ⟨_, List.getElem?_eq_getElem (by rw [HL.out]; exact hlt)⟩
        have HS := Lib.hid (all_split (fitC n m) hx)
        obtain ⟨ad, rfl, hab, c0, c1, c2, c3⟩ := (hr.below hb).clus hx
        obtain ⟨⟨x1, x2⟩, ⟨x3, x4⟩⟩ := x
        simp only at c0 c1 c2 c3
        clear hx
        have hb1 := hb.alloc hb.size (.cells #[.int .i64 x1, .int .i64 x2, .int .i64 x3, .int .i64 x4] 41)
        have hn := cells_new wr [.int .i64 x1, .int .i64 x2, .int .i64 x3, .int .i64 x4] 41
        have d1 := hn 1 _ rfl
        have d2 := hn 2 _ rfl
        have d3 := hn 3 _ rfl
        rw [addNew] at d1 d2 d3
        clear hn
        have HFC := Lib.hid (show fitC n m ((x1, x2), (x3, x4)) = (rightB (x1, x2) && decide (x2 ≤ n) && (rightB (x3, x4) && decide (x4 ≤ m))) from rfl)
        go_wp2_with fail
        refine (prRight_any x1 x2 _).mono ?_
        rintro e w1 ⟨rfl, hw1⟩
        have g1 := cell_below hw1 d1
        have g2 := cell_below hw1 d2
        have g3 := cell_below hw1 d3
        have hb2 := hb1.trans (hw1.mono hb1.size)
        clear d1 d2 d3
        rcases h1 : rightB (x1, x2) with _ | _
        · go_wp2_with fail
          go_ret
          exact ⟨retB (by rw [HF.out, HS.out, HFC.out, h1]; rfl), hb2⟩
        · by_cases h2 : x2 ≤ n
          · go_wp2_with fail
            refine (prRight_any x3 x4 _).mono ?_
            rintro e w2 ⟨rfl, hw2⟩
            have g4 := cell_below hw2 g3
            have hb3 := hb2.trans (hw2.mono hb2.size)
            rcases h3 : rightB (x3, x4) with _ | _
            · go_wp2_with fail
              go_ret
              exact ⟨retB (by rw [HF.out, HS.out, HFC.out, h1, h3]; simp), hb3⟩
            · by_cases h4 : x4 ≤ m
              · go_wp2_with fail
                go_roundw
                case rel => exact ⟨k + 1, by omega, by go_num, by rw [HF.out, HS.out, HFC.out, h1, h3]; simp [h2, h4], hb3⟩
                case measure => simp [intOf]; omega
              · go_wp2_with fail
                go_ret
                exact ⟨retB (by rw [HF.out, HS.out, HFC.out, h1, h3, decide_eq_true h2, decide_eq_false (show ¬x4 ≤ m by omega)]; rfl), hb3⟩
          · go_wp2_with fail
            go_ret
            exact ⟨retB (by rw [HF.out, HS.out, HFC.out, h1, decide_eq_false (show ¬x2 ≤ n by omega)]; rfl), hb2⟩
      · have hkq : k = q := by omega
        have HKQ := Lib.hid hkq
        go_wp2_with fail
        go_ret
        exact ⟨retB (by rw [HF.out, HKQ.out, ← HL.out, List.drop_length]; rfl), hb⟩
  · have HN := Lib.hid (show fitB n m l = false by unfold fitB; rw [Bool.eq_false_iff.2 hN]; rfl)
    unfold fitN at hN
    simp at hN
    go_enter Tryz.func69, Tryz.ntmps69
    have hc : n < 0 ∨ (0 ≤ n ∧ 16777216 < n) ∨ (0 ≤ n ∧ n ≤ 16777216 ∧ m < 0) ∨ (0 ≤ n ∧ n ≤ 16777216 ∧ 0 ≤ m ∧ 16777216 < m) := by omega
    clear hN
    rcases hc with h | ⟨h, h'⟩ | ⟨h, h', h''⟩ | ⟨h, h', h'', h3⟩
    all_goals
      go_wp2_with fail
      go_ret
      exact ⟨retB (by rw [HN.out]), Below.refl _ _⟩
/-- Whether spans by their Lo leave no place out, from e on; where they end. -/
def covGo : Int → List Sp → Option Int
  | e, [] => some e
  | e, s :: l => if e < s.1 then none else covGo (if e < s.2 then s.2 else e) l
def covB (m : Int) (l : List Sp) : Bool := match covGo 0 l with
  | some e => decide (e = m)
  | none => false
theorem covGo_next {l : List Sp} {k : Nat} {s : Sp} (h : l[k]? = some s) (e : Int) : covGo e (l.drop k) = if e < s.1 then none else covGo (if e < s.2 then s.2 else e) (l.drop (k + 1)) := by
  rw [dropCons h]; rfl
set_option maxRecDepth 100000 in
set_option maxHeartbeats 2000000 in
theorem covered_any (m : Int) (A : Option Addr) (q c : Nat) (l : List Cl) (w : World) (hr : Rd w 4 A q (cellsC l)) (hq : q ≤ 1000000) :
    Calls Tryz.prog 70 #[.int .i64 m, .slice A q c] w fun e w' => ∃ l', List.Perm l' (l.map Prod.snd) ∧ LoSorted l' ∧ e = .returned (.bool (covB m l')) ∧ Below w.heap.size w w' := by
  go_enter Tryz.func70, Tryz.ntmps70
  go_wp2_with fail
  refine (prOuts_any A q c l w hr hq).mono ?_
  rintro e w1 ⟨v, l', rfl, hp, hs, hown, hb1⟩
  have HPS := Lib.hid (And.intro hp hs)
  have hlen : l'.length = q := by have := hown.1; rw [cellsS_len] at this; omega
  have HL := Lib.hid hlen
  clear hp hs hlen hr
  obtain ⟨V, cv, rfl, _⟩ := own_form hown
  go_wp2_with fail
  go_loopw [5, 11] (fun z i wr => ∃ (k : Nat) (e : Int), k ≤ q ∧ i = .int .i64 (k : Int) ∧ z = .int .i64 e ∧ covGo 0 l' = covGo e (l'.drop k) ∧ Below w1.heap.size w1 wr) (fun _ i _ => q - (intOf i).toNat)
  case atStart => exact ⟨0, 0, Nat.zero_le _, rfl, rfl, rfl, Below.refl _ _⟩
  case round =>
    obtain ⟨k, e, hk, rfl, rfl, hf, hb⟩ := hrel
    have HF := Lib.hid hf
    clear hf
    by_cases hlt : k < q
    · obtain ⟨s, hx⟩ : ∃ s, l'[k]? = some s := ⟨_, List.getElem?_eq_getElem (by rw [HL.out]; exact hlt)⟩
      have HS := Lib.hid (covGo_next hx e)
      obtain ⟨ad, rfl, hab, c0, c1⟩ := ((Rd.of_own hown).below hb).span hx
      obtain ⟨x1, x2⟩ := s
      simp only at c0 c1
      clear hx
      have hb2 := hb.alloc hb.size (.cells #[.int .i64 x1, .int .i64 x2] 39)
      have hb3 := hb1.trans (hb2.mono hb1.size)
      by_cases h1 : e < x1
      · have HC := Lib.hid (show covB m l' = false by unfold covB; rw [HF.out, HS.out, if_pos h1])
        go_wp2_with fail
        go_ret
        exact ⟨l', HPS.out.1, HPS.out.2, retB (by rw [HC.out]), hb3⟩
      · by_cases h2 : e < x2
        · go_wp2_with fail
          go_roundw
          case rel => exact ⟨k + 1, x2, by omega, by go_num, by first | rfl | go_num, by rw [HF.out, HS.out, if_neg h1, if_pos h2], hb2⟩
          case measure => simp [intOf]; omega
        · go_wp2_with fail
          go_roundw
          case rel => exact ⟨k + 1, e, by omega, by go_num, by first | rfl | go_num, by rw [HF.out, HS.out, if_neg h1, if_neg h2], hb2⟩
          case measure => simp [intOf]; omega
    · have hkq : k = q := by omega
      have HC := Lib.hid (show covGo 0 l' = some e by rw [HF.out, hkq, ← HL.out, List.drop_length]; rfl)
      have hb2 := hb1.trans (hb.mono hb1.size)
      go_wp2_with fail
      go_ret
      exact ⟨l', HPS.out.1, HPS.out.2, retB (by unfold covB; rw [HC.out]; first | rfl | simp | (by_cases h9 : e = m <;> simp [h9])), hb2⟩
end Go.Proofs.YtcbiaeeifclieaaGreatDoor
/- cluster's Finest where there is no map, walked. -/
namespace Go.Proofs.YtcbiaeeifclieaaGreatDoor
open Go.RowKit

set_option maxRecDepth 100000 in
set_option maxHeartbeats 200000 in
theorem prFinest_unfit (n m : Int) (q c : Nat) (A : Option Addr) (l : List Cl) (w : World) (hr : Rd w 4 A q (cellsC l)) (hq : q ≤ maxLen) (hfit : fitB n m l = false) :
    Calls Tryz.prog 43 #[.int .i64 n, .int .i64 m, .slice A q c] w fun e w' => e = .returned (.tuple #[.slice none 0 0, .int .i64 1]) ∧ Below w.heap.size w w' := by
  have HFIT := Lib.hid hfit
  have HR := Lib.hid (fit_any n m A q c l w hr hq)
  clear hfit hr hq
  go_enter Tryz.func43, Tryz.ntmps43
  go_wp2_with fail
  refine HR.out.mono ?_
  rintro e w1 ⟨rfl, hb1⟩
  rw [HFIT.out]
  go_wp2_with fail
  exact bodyPost_ret (v := .tuple #[.slice none 0 0, .int .i64 1]) (by simp [results, go_sem]) rfl ⟨rfl, hb1⟩
theorem fit_nums {n m : Int} {l : List Cl} (h : fitB n m l = true) : 0 ≤ n ∧ n ≤ 16777216 ∧ 0 ≤ m ∧ m ≤ 16777216 := by
  unfold fitB at h
  simp at h
  have hN := h.1
  unfold fitN at hN
  simp at hN
  omega
set_option maxRecDepth 100000 in
set_option maxHeartbeats 200000 in
theorem prFinest_removed (n m : Int) (q c : Nat) (A : Option Addr) (l : List Cl) (w : World) (hr : Rd w 4 A q (cellsC l)) (hq : q ≤ maxLen) (hfit : fitB n m l = true) (hm : m = 0) (hn : n ≠ 0) :
    Calls Tryz.prog 43 #[.int .i64 n, .int .i64 m, .slice A q c] w fun e w' => e = .returned (.tuple #[.slice none 0 0, .int .i64 8]) ∧ Below w.heap.size w w' := by
  have HFIT := Lib.hid hfit
  have HR := Lib.hid (fit_any n m A q c l w hr hq)
  have HZ := Lib.hid hm
  clear hfit hr hq hm
  go_enter Tryz.func43, Tryz.ntmps43
  go_wp2_with fail
  refine HR.out.mono ?_
  rintro e w1 ⟨rfl, hb1⟩
  rw [HFIT.out]
  rw [HZ.out]
  go_wp2_with fail
  exact bodyPost_ret (v := .tuple #[.slice none 0 0, .int .i64 8]) (by simp [results, go_sem]) rfl ⟨rfl, hb1⟩
set_option maxRecDepth 100000 in
set_option maxHeartbeats 200000 in
theorem prFinest_none (n m : Int) (q c : Nat) (A : Option Addr) (l : List Cl) (w : World) (hr : Rd w 4 A q (cellsC l)) (hq : q ≤ maxLen) (hfit : fitB n m l = true) (hn : n = 0) (hm : m ≠ 0) :
    Calls Tryz.prog 43 #[.int .i64 n, .int .i64 m, .slice A q c] w fun e w' => e = .returned (.tuple #[.slice none 0 0, .int .i64 13]) ∧ Below w.heap.size w w' := by
  have HFIT := Lib.hid hfit
  have HR := Lib.hid (fit_any n m A q c l w hr hq)
  have HZ := Lib.hid hn
  clear hfit hr hq hn
  go_enter Tryz.func43, Tryz.ntmps43
  go_wp2_with fail
  refine HR.out.mono ?_
  rintro e w1 ⟨rfl, hb1⟩
  rw [HFIT.out]
  rw [HZ.out]
  go_wp2_with fail
  exact bodyPost_ret (v := .tuple #[.slice none 0 0, .int .i64 13]) (by simp [results, go_sem]) rfl ⟨rfl, hb1⟩
set_option maxRecDepth 100000 in
set_option maxHeartbeats 200000 in
theorem prFinest_open (n m : Int) (q c : Nat) (A : Option Addr) (l : List Cl) (w : World) (hr : Rd w 4 A q (cellsC l)) (hq : q ≤ 1000000) (hfit : fitB n m l = true) (hz : (n ≠ 0 ∧ m ≠ 0) ∨ (n = 0 ∧ m = 0)) (hcov : ∀ l', List.Perm l' (l.map Prod.snd) → LoSorted l' → covB m l' = false) :
    Calls Tryz.prog 43 #[.int .i64 n, .int .i64 m, .slice A q c] w fun e w' => e = .returned (.tuple #[.slice none 0 0, .int .i64 13]) ∧ Below w.heap.size w w' := by
  have HFIT := Lib.hid hfit
  have HR := Lib.hid (fit_any n m A q c l w hr (by unfold maxLen; omega))
  have HC := Lib.hid (fun w1 (hb : Below w.heap.size w w1) => covered_any m A q c l w1 (hr.below hb) hq)
  have HCOV := Lib.hid hcov
  clear hfit hr hq hcov
  go_enter Tryz.func43, Tryz.ntmps43
  go_wp2_with fail
  refine HR.out.mono ?_
  rintro e w1 ⟨rfl, hb1⟩
  rw [HFIT.out]
  rcases hz with ⟨h1, h2⟩ | ⟨rfl, rfl⟩
  · have hm1 : (m == 0) = false := by simpa using h2
    have hn1 : (n == 0) = false := by simpa using h1
    clear h1 h2
    go_wp2_with fail
    refine (HC.out w1 hb1).mono ?_
    rintro e w2 ⟨l', hp, hs, rfl, hb2⟩
    rw [HCOV.out l' hp hs]
    have hb3 := hb1.trans (hb2.mono hb1.size)
    go_wp2_with fail
    exact bodyPost_ret (v := .tuple #[.slice none 0 0, .int .i64 13]) (by simp [results, go_sem]) rfl ⟨rfl, hb3⟩
  · go_wp2_with fail
    refine (HC.out w1 hb1).mono ?_
    rintro e w2 ⟨l', hp, hs, rfl, hb2⟩
    rw [HCOV.out l' hp hs]
    have hb3 := hb1.trans (hb2.mono hb1.size)
    go_wp2_with fail
    exact bodyPost_ret (v := .tuple #[.slice none 0 0, .int .i64 13]) (by simp [results, go_sem]) rfl ⟨rfl, hb3⟩
end Go.Proofs.YtcbiaeeifclieaaGreatDoor
/- Whether links cover what comes out: no matter in which order. No program in this text. -/
namespace Go.Proofs.YtcbiaeeifclieaaGreatDoor

theorem covGo_iff (m : Int) : ∀ (l : List Sp) (e : Int), LoSorted l → (∀ s ∈ l, s.1 < s.2 ∧ s.2 ≤ m) → e ≤ m → (covGo e l = some m ↔ ∀ j, e ≤ j → j < m → ∃ s ∈ l, s.1 ≤ j ∧ j < s.2)
  | [], e, _, _, he => by
    constructor
    · intro h j h1 h2
      injection h with h
      omega
    · intro h
      have : e = m := by
        rcases Int.lt_or_le e m with h1 | h1
        · obtain ⟨s, hs, _⟩ := h e (Int.le_refl _) h1
          cases hs
        · omega
      rw [covGo, this]
  | s :: l, e, hs, hr, he => by
    obtain ⟨h1, h2⟩ := List.pairwise_cons.1 hs
    have hss := hr s (List.mem_cons_self ..)
    rw [covGo]
    by_cases hlt : e < s.1
    · rw [if_pos hlt]
      constructor
      · intro h; exact absurd h (by simp)
      · intro h
        exfalso
        obtain ⟨t, ht, h3, h4⟩ := h e (Int.le_refl _) (by omega)
        rcases List.mem_cons.1 ht with rfl | ht
        · omega
        · have := h1 t ht
          omega
    · rw [if_neg hlt]
      have ih := covGo_iff m l (if e < s.2 then s.2 else e) h2 (fun t ht => hr t (List.mem_cons_of_mem _ ht)) (by split <;> omega)
      rw [ih]
      constructor
      · intro h j h3 h4
        by_cases h5 : j < s.2
        · exact ⟨s, List.mem_cons_self .., by omega, h5⟩
        · obtain ⟨t, ht, h6⟩ := h j (by split <;> omega) h4
          exact ⟨t, List.mem_cons_of_mem _ ht, h6⟩
      · intro h j h3 h4
        have h5 : e ≤ j ∧ s.2 ≤ j := by split at h3 <;> omega
        obtain ⟨t, ht, h6, h7⟩ := h j h5.1 h4
        rcases List.mem_cons.1 ht with rfl | ht
        · omega
        · exact ⟨t, ht, h6, h7⟩
/-- Any order by Lo tells the same: whether each place lies in a link's Out. -/
theorem covB_iff {m : Int} {l l' : List Sp} (hp : List.Perm l' l) (hs : LoSorted l') (hr : ∀ s ∈ l, s.1 < s.2 ∧ s.2 ≤ m) (hm : 0 ≤ m) : covB m l' = true ↔ ∀ j, 0 ≤ j → j < m → ∃ s ∈ l, s.1 ≤ j ∧ j < s.2 := by
  have h := covGo_iff m l' 0 hs (fun s hs' => hr s (hp.mem_iff.1 hs')) hm
  have h2 : (∀ j, 0 ≤ j → j < m → ∃ s ∈ l', s.1 ≤ j ∧ j < s.2) ↔ ∀ j, 0 ≤ j → j < m → ∃ s ∈ l, s.1 ≤ j ∧ j < s.2 := by
    constructor
    · intro h j h1 h2
      obtain ⟨s, hs', h3⟩ := h j h1 h2
      exact ⟨s, hp.mem_iff.1 hs', h3⟩
    · intro h j h1 h2
      obtain ⟨s, hs', h3⟩ := h j h1 h2
      exact ⟨s, hp.mem_iff.2 hs', h3⟩
  rw [← h2, ← h]
  unfold covB
  rcases covGo 0 l' with _ | e <;> simp
end Go.Proofs.YtcbiaeeifclieaaGreatDoor
