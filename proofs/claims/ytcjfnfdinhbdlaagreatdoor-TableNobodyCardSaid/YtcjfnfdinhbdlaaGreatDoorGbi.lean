import Derived.Test.YtcjfnfdinhbdlaaGreatDoorGbg
import Derived.Test.YtcjfnfdinhbdlaaGreatDoorGaz
import Derived.Test.YtcjfnfdinhbdlaaGreatDoorGbh
namespace Go.Proofs.YtcjfnfdinhbdlaaGreatDoor
set_option maxRecDepth 100000
open Go.ChangeShapes Go.WideShapes Go.ChangeAt Go.RowKit Go.PlainAid
theorem out_given {V : Int → ByteArray} {n : Nat} {v : Int} (hs : (V 0).size = 256) (h : Least (V 0) 2 n v) (hn : n ≤ 1024) : outB n (givenV V v 0) v = true := by
  rw [(see_given hs hn h).2.1, if_pos rfl]
def topV (V : Int → ByteArray) (i v level : Int) (L : List Pr) : Int → ByteArray := updV (updV (givenV V v) v (filled (packP level L))) 1 (setRoot (updV (givenV V v) v (filled (packP level L)) 1) i v)
def cutV (V : Int → ByteArray) (x : NdD) (v : Int) : Int → ByteArray := updV (updV (givenV V v) x.at_ (filled (packP x.level (x.L.take (halfP x.level x.L))))) v (filled (packP x.level (x.L.drop (halfP x.level x.L))))
def upI (u : NdD × Nat) (q : Pr) : NdD := { u.1 with L := u.1.L.take (u.2 + 1) ++ q :: u.1.L.drop (u.2 + 1) }
def GrowV (n : Nat) (i : Int) : List (NdD × Nat) → NdD → (Int → ByteArray) → (Int → ByteArray) → Prop
  | [], x, V, V' => (wtP x.level x.L ≤ 254 ∧ V' = updV V x.at_ (filled (packP x.level x.L))) ∨
      (254 < wtP x.level x.L ∧ ∃ v m v2, Least (V 0) 2 n v ∧ x.L[halfP x.level x.L]? = some m ∧ Least (cutV V x v 0) 2 n v2 ∧ V' = topV (cutV V x v) i v2 (x.level + 1) [⟨⟨#[]⟩, numB x.at_⟩, ⟨m.key, numB v⟩])
  | u :: us, x, V, V' => (wtP x.level x.L ≤ 254 ∧ V' = updV V x.at_ (filled (packP x.level x.L))) ∨
      (254 < wtP x.level x.L ∧ ∃ v m, Least (V 0) 2 n v ∧ x.L[halfP x.level x.L]? = some m ∧ GrowV n i us (upI u ⟨m.key, numB v⟩) (cutV V x v) V')
def needN (us : List (NdD × Nat)) (x : NdD) : Nat := splN 0 ((x.level, x.L) :: us.map fun u => (u.1.level, u.1.L))
theorem needN_fits {us : List (NdD × Nat)} {x : NdD} (h : wtP x.level x.L ≤ 254) : needN us x = 0 := by
  unfold needN splN
  rw [if_pos (by show wtP x.level x.L + 0 ≤ 254; omega)]
theorem needN_root {x : NdD} (h : 254 < wtP x.level x.L) : needN [] x = 2 := by
  unfold needN splN
  rw [if_neg (by show ¬ wtP x.level x.L + 0 ≤ 254; omega)]
  rfl
theorem wt_ins {level : Int} (hl : 1 < level) (L : List Pr) (q : Pr) (k : Nat) : wtP level (L.take k ++ q :: L.drop k) = wtP level L + 36 := by
  rw [wtP_link hl, wtP_link hl, List.length_append, List.length_cons, List.length_take, List.length_drop]
  omega
theorem needN_up {u : NdD × Nat} {us : List (NdD × Nat)} {x : NdD} (h : 254 < wtP x.level x.L) (hl : 1 < u.1.level) (q : Pr) : needN (u :: us) x = needN us (upI u q) + 1 := by
  unfold needN
  show splN 0 ((x.level, x.L) :: (u.1.level, u.1.L) :: _) = splN 0 ((u.1.level, u.1.L.take (u.2 + 1) ++ q :: u.1.L.drop (u.2 + 1)) :: _) + 1
  conv => lhs; unfold splN
  rw [if_neg (by show ¬ wtP x.level x.L + 0 ≤ 254; omega)]
  unfold splN
  simp only [wt_ins hl, Nat.add_zero]
  omega
structure UpF (n : Nat) (V : Int → ByteArray) (u : NdD) : Prop where
  lev : 1 < u.level ∧ u.level ≤ 254
  prs : ∀ q ∈ u.L, q.key.size ≤ 32 ∧ q.val.size = 2
  wt : wtP u.level u.L ≤ 254
  out : outB n (V 0) u.at_ = true
structure CurF (n : Nat) (V : Int → ByteArray) (x : NdD) : Prop where
  lev : 1 ≤ x.level ∧ x.level ≤ 254
  prs : ∀ q ∈ x.L, q.key.size ≤ 32 ∧ 2 + q.key.size + q.val.size ≤ szP x.level q ∧ szP x.level q ≤ 114
  wt : wtP x.level x.L ≤ 394
  out : outB n (V 0) x.at_ = true
theorem pks_wt {level : Int} {L : List Pr} (h : ∀ q ∈ L, 2 + q.key.size + q.val.size ≤ szP level q) : pkS L ≤ wtP level L := by
  induction L with
  | nil => exact Nat.le_refl _
  | cons q t ih =>
    have h1 := h q List.mem_cons_self
    have h2 := ih fun r hr => h r (List.mem_cons_of_mem _ hr)
    rw [wtP_cons]
    unfold pkS at *
    rw [List.map_cons, List.sum_cons]
    omega
theorem CurF.cut {n : Nat} {V : Int → ByteArray} {x : NdD} (h : CurF n V x) (hw : 254 < wtP x.level x.L) : CutOk x.level x.L (halfP x.level x.L) := half_ok (fun q hq => (h.prs q hq).2.2) hw h.wt
theorem CurF.pk {n : Nat} {V : Int → ByteArray} {x : NdD} (h : CurF n V x) : pkS x.L ≤ wtP x.level x.L := pks_wt fun q hq => (h.prs q hq).2.1
theorem CurF.take {n : Nat} {V : Int → ByteArray} {x : NdD} (h : CurF n V x) (k : Nat) : pkS (x.L.take k) ≤ wtP x.level (x.L.take k) := pks_wt fun q hq => (h.prs q (List.mem_of_mem_take hq)).2.1
theorem CurF.drop {n : Nat} {V : Int → ByteArray} {x : NdD} (h : CurF n V x) (k : Nat) : pkS (x.L.drop k) ≤ wtP x.level (x.L.drop k) := pks_wt fun q hq => (h.prs q (List.mem_of_mem_drop hq)).2.1
theorem CurF.up {n : Nat} {V V' : Int → ByteArray} {u : NdD × Nat} {q : Pr} (h : UpF n V u.1) (hq : q.key.size ≤ 32) (hv : q.val.size = 2) (ho : outB n (V' 0) u.1.at_ = true) : CurF n V' (upI u q) := by
  obtain ⟨l1, l2⟩ := h.lev
  refine ⟨⟨by show 1 ≤ u.1.level; omega, l2⟩, fun r hr => ?_, by show wtP u.1.level (u.1.L.take (u.2 + 1) ++ q :: u.1.L.drop (u.2 + 1)) ≤ _; rw [wt_ins l1]; have := h.wt; omega, ho⟩
  have hr2 : r.key.size ≤ 32 ∧ r.val.size = 2 := by
    rcases List.mem_append.1 hr with hr | hr
    · exact h.prs r (List.mem_of_mem_take hr)
    · rcases List.mem_cons.1 hr with rfl | hr
      · exact ⟨hq, hv⟩
      · exact h.prs r (List.mem_of_mem_drop hr)
  show _ ∧ _ ≤ szP u.1.level r ∧ szP u.1.level r ≤ 114
  unfold szP
  rw [if_pos l1]
  omega
theorem see_cut {n : Nat} {V : Int → ByteArray} {x : NdD} {v : Int} (hb : BitsOk V n) (hx : CurF n V x) (hw : 254 < wtP x.level x.L) (hv : Least (V 0) 2 n v) :
    seeV (cutV V x v) n = wrG (wrG (seeV V n) x.at_ x.level (x.L.take (halfP x.level x.L))) v x.level (x.L.drop (halfP x.level x.L)) ∧ (∀ c, outB n (cutV V x v 0) c = if c = v then true else outB n (V 0) c) ∧ BitsOk (cutV V x v) n ∧ usedN (cutV V x v 0) n = usedN (V 0) n + 1 ∧ cutV V x v 1 = V 1 := by
  obtain ⟨g1, g2, g3, g4⟩ := see_given hb.size hb.pages hv
  obtain ⟨b1, b2⟩ := bits_given hb hv
  have hc := hx.cut hw
  have hat := out_in hx.out
  have hne : x.at_ ≠ v := fun e => by
    have h1 := hx.out
    obtain ⟨⟨_, _, _, _, e2⟩, _⟩ := hv
    unfold outB at h1
    simp only [Bool.and_eq_true] at h1
    rw [e, e2] at h1
    cases h1.2
  have k1 := hx.take (halfP x.level x.L)
  have k2 := hx.drop (halfP x.level x.L)
  have k3 := hc.left
  have k4 := hc.right
  have hlev := hx.lev
  have o1 : outB n (givenV V v 0) x.at_ = true := by rw [g2, if_neg hne]; exact hx.out
  obtain ⟨c1, c2⟩ := bits_upd (k := x.at_) (s := filled (packP x.level (x.L.take (halfP x.level x.L)))) b1 (by omega) (filled_size _)
  obtain ⟨c3, c4⟩ := bits_upd (k := v) (s := filled (packP x.level (x.L.drop (halfP x.level x.L)))) c1 (by omega) (filled_size _)
  have e0 : cutV V x v 0 = givenV V v 0 := by
    show updV _ v _ 0 = _
    rw [c4, c2]
  refine ⟨?_, fun c => by rw [e0]; exact g2 c, c3, by rw [e0]; exact b2, ?_⟩
  · show seeV (updV _ v (filled (packP _ _))) n = _
    rw [see_upd (by rw [c2, g2, if_pos rfl]) (by omega) (by omega) (by omega), see_upd o1 (by omega) (by omega) (by omega)]
    funext c
    by_cases h1 : c = v
    · rw [h1, wrG_self, wrG_self]
    · rw [wrG_other h1, wrG_other h1]
      by_cases h2 : c = x.at_
      · rw [h2, wrG_self, wrG_self]
      · rw [wrG_other h2, wrG_other h2, g1 c h1]
  · unfold cutV
    rw [updV_other _ _ (by omega), updV_other _ _ (by omega)]
    unfold givenV
    rw [updV_other _ _ (by omega), updV_other _ _ (by omega)]
theorem see_top {n : Nat} {V : Int → ByteArray} {i v level : Int} {L : List Pr} (hb : BitsOk V n) (hi : 0 ≤ i ∧ i < 16) (hv : Least (V 0) 2 n v) (hs : pkS L ≤ 254) (h0 : 0 ≤ level) (h1 : level < 256) :
    seeV (topV V i v level L) n = wrG (seeV V n) v level L ∧ (∀ c, outB n (topV V i v level L 0) c = if c = v then true else outB n (V 0) c) ∧ BitsOk (topV V i v level L) n ∧ usedN (topV V i v level L 0) n = usedN (V 0) n + 1 ∧ (∀ j, 0 ≤ j ∧ j < 16 → rootZ (topV V i v level L 1) j = if j = i then v else rootZ (V 1) j) := by
  obtain ⟨g1, g2, g3, g4⟩ := see_given hb.size hb.pages hv
  obtain ⟨b1, b2⟩ := bits_given hb hv
  have hpg := hb.pages
  obtain ⟨c1, c2⟩ := bits_upd (k := v) (s := filled (packP level L)) b1 (by omega) (filled_size _)
  obtain ⟨d1, d2⟩ := see_page1 (V := updV (givenV V v) v (filled (packP level L))) (n := n) (setRoot (updV (givenV V v) v (filled (packP level L)) 1) i v)
  have e1 : updV (givenV V v) v (filled (packP level L)) 1 = V 1 := by
    rw [updV_other _ _ (by omega)]
    unfold givenV
    rw [updV_other _ _ (by omega), updV_other _ _ (by omega)]
  have hsz : (setRoot (updV (givenV V v) v (filled (packP level L)) 1) i v).size = 256 := by
    rw [e1]
    exact setRoot_size hb.size1 hi.1 hi.2
  obtain ⟨f1, f2⟩ := bits_upd (k := 1) (s := setRoot (updV (givenV V v) v (filled (packP level L)) 1) i v) c1 (by omega) hsz
  have e0 : topV V i v level L 0 = givenV V v 0 := by
    show updV _ 1 _ 0 = _
    rw [f2, c2]
  refine ⟨?_, fun c => by rw [e0]; exact g2 c, f1, by rw [e0]; exact b2, fun j hj => ?_⟩
  · show seeV (updV _ 1 _) n = _
    rw [d1, see_upd (by rw [g2, if_pos rfl]) hs h0 h1]
    funext c
    by_cases h1 : c = v
    · rw [h1, wrG_self, wrG_self]
    · rw [wrG_other h1, wrG_other h1, g1 c h1]
  · show rootZ (updV _ 1 _ 1) j = _
    rw [updV_same, e1, root_set hb.size1 hi hj ⟨by omega, by omega⟩]
theorem growV_G {n : Nat} {i : Int} (hi : 0 ≤ i ∧ i < 16) : ∀ {us : List (NdD × Nat)} {x : NdD} {V V' : Int → ByteArray}, BitsOk V n → CurF n V x → (∀ u ∈ us, UpF n V u.1) → (∀ u ∈ us, u.2 < u.1.L.length) → GrowV n i us x V V' →
    ∃ N rt, GrowG us x (seeV V n) (seeV V' n) N rt ∧ (∀ j, 0 ≤ j ∧ j < 16 → rootZ (V' 1) j = if j = i then rt.getD (rootZ (V 1) i) else rootZ (V 1) j) ∧ (∀ c, outB n (V' 0) c = true ↔ outB n (V 0) c = true ∨ c ∈ N) ∧ (∀ c ∈ N, outB n (V 0) c = false) ∧ BitsOk V' n ∧ usedN (V' 0) n = usedN (V 0) n + N.length := by
  have fits : ∀ {us : List (NdD × Nat)} {x : NdD} {V V' : Int → ByteArray}, BitsOk V n → CurF n V x → (wtP x.level x.L ≤ 254 ∧ V' = updV V x.at_ (filled (packP x.level x.L))) →
      ∃ N rt, GrowG us x (seeV V n) (seeV V' n) N rt ∧ (∀ j, 0 ≤ j ∧ j < 16 → rootZ (V' 1) j = if j = i then rt.getD (rootZ (V 1) i) else rootZ (V 1) j) ∧ (∀ c, outB n (V' 0) c = true ↔ outB n (V 0) c = true ∨ c ∈ N) ∧ (∀ c ∈ N, outB n (V 0) c = false) ∧ BitsOk V' n ∧ usedN (V' 0) n = usedN (V 0) n + N.length := by
    rintro us x V V' hb hx ⟨hw, rfl⟩
    have hat := out_in hx.out
    have hpk := hx.pk
    have hlev := hx.lev
    obtain ⟨c1, c2⟩ := bits_upd (k := x.at_) (s := filled (packP x.level x.L)) hb (by omega) (filled_size _)
    refine ⟨[], none, ?_, fun j hj => ?_, fun c => by rw [c2]; simp, fun c hc => (by cases hc), c1, by rw [c2]; rfl⟩
    · have h : GrowG us x (seeV V n) (wrG (seeV V n) x.at_ x.level x.L) [] none := by
        cases us with
        | nil => exact .inl ⟨hw, rfl, rfl, rfl⟩
        | cons u us => exact .inl ⟨hw, rfl, rfl, rfl⟩
      rw [see_upd hx.out (by omega) (by omega) (by omega)]
      exact h
    · rw [updV_other _ _ (by omega)]
      split
      · next h => rw [h]; rfl
      · rfl
  intro us
  induction us with
  | nil =>
    intro x V V' hb hx hus ht hg
    rcases hg with hf | ⟨hw, v, m, v2, hv, hm, hv2, rfl⟩
    · exact fits hb hx hf
    · obtain ⟨s1, s2, s3, s4, s5⟩ := see_cut hb hx hw hv
      have hmk := (hx.prs m (List.mem_of_getElem? hm)).1
      have hlev := hx.lev
      have hpk : pkS [⟨⟨#[]⟩, numB x.at_⟩, ⟨m.key, numB v⟩] ≤ 254 := by
        unfold pkS
        simp only [List.map_cons, List.map_nil, List.sum_cons, List.sum_nil, numB_size]
        show 2 + 0 + 2 + _ ≤ 254
        omega
      obtain ⟨t1, t2, t3, t4, t5⟩ := see_top (L := [⟨⟨#[]⟩, numB x.at_⟩, ⟨m.key, numB v⟩]) (level := x.level + 1) s3 hi hv2 hpk (by omega) (by omega)
      obtain ⟨g1, g2, g3, g4, g5⟩ := see_given hb.size hb.pages hv
      obtain ⟨j1, j2, j3, j4, j5⟩ := see_given s3.size s3.pages hv2
      have hp := hb.pages
      have hvo : outB n (V 0) v = false := by
        obtain ⟨⟨_, _, _, _, e⟩, _⟩ := hv
        unfold outB
        rw [e]
        simp
      have hv2o : outB n (cutV V x v 0) v2 = false := by
        obtain ⟨⟨_, _, _, _, e⟩, _⟩ := hv2
        unfold outB
        rw [e]
        simp
      have hne : v2 ≠ v := fun e => by
        rw [s2, if_pos e] at hv2o
        cases hv2o
      have hv2o' : outB n (V 0) v2 = false := by rwa [s2, if_neg hne] at hv2o
      refine ⟨[v, v2], some v2, .inr ⟨hw, v, m, v2, g3, by omega, by omega, hm, _, rfl, by rw [← s1]; exact j3, by rw [t1, s1], rfl, rfl⟩, fun j hj => ?_, fun c => ?_, fun c hc => ?_, t3, by rw [t4, s4]; rfl⟩
      · rw [t5 j hj, s5]
        rfl
      · rw [t2, s2]
        simp only [List.mem_cons, List.not_mem_nil, or_false]
        by_cases h1 : c = v2
        · simp [h1]
        · by_cases h2 : c = v
          · simp [h2]
          · simp [h1, h2]
      · simp only [List.mem_cons, List.not_mem_nil, or_false] at hc
        rcases hc with rfl | rfl
        · exact hvo
        · exact hv2o'
  | cons u us ih =>
    intro x V V' hb hx hus ht hg
    rcases hg with hf | ⟨hw, v, m, hv, hm, hg⟩
    · exact fits hb hx hf
    · obtain ⟨s1, s2, s3, s4, s5⟩ := see_cut hb hx hw hv
      have hmk := (hx.prs m (List.mem_of_getElem? hm)).1
      obtain ⟨g1, g2, g3, g4, g5⟩ := see_given hb.size hb.pages hv
      have hp := hb.pages
      have hvo : outB n (V 0) v = false := by
        obtain ⟨⟨_, _, _, _, e⟩, _⟩ := hv
        unfold outB
        rw [e]
        simp
      have hout : ∀ c, outB n (V 0) c = true → outB n (cutV V x v 0) c = true := fun c hc => by
        rw [s2]
        split
        · rfl
        · exact hc
      have hu := hus u List.mem_cons_self
      obtain ⟨N, rt, k1, k2, k3, k4, k5, k6⟩ := ih (x := upI u ⟨m.key, numB v⟩) s3 (CurF.up hu hmk rfl (hout _ hu.out)) (fun w hw => by
        have h := hus w (List.mem_cons_of_mem _ hw)
        exact ⟨h.lev, h.prs, h.wt, hout _ h.out⟩) (fun w hw => ht w (List.mem_cons_of_mem _ hw)) hg
      refine ⟨v :: N, rt, .inr ⟨hw, v, m, N, g3, by omega, by omega, hm, rfl, by rw [← s1]; exact k1⟩, fun j hj => by rw [k2 j hj, s5], fun c => ?_, fun c hc => ?_, k5, by rw [k6, s4, List.length_cons]; omega⟩
      · rw [k3 c, s2, List.mem_cons]
        by_cases h : c = v
        · simp [h]
        · simp [h]
      · rcases List.mem_cons.1 hc with rfl | hc
        · exact hvo
        · have h := k4 c hc
          rw [s2] at h
          split at h
          · cases h
          · exact h
end Go.Proofs.YtcjfnfdinhbdlaaGreatDoor
namespace Go.Proofs.YtcjfnfdinhbdlaaGreatDoor
set_option maxRecDepth 100000
open Go.ChangeShapes Go.WideShapes Go.ChangeAt Go.RowKit Go.PlainAid
open Go.Sort (grow)
def treeO (pp : Nat) (i : Int) : Obj := .cells #[.pointer (some ⟨pp, 0, none⟩), .int .i64 i] 108 (0, 0)
def ndO (x : NdM) : Obj := .cells x.cells 116 (0, 0)
def zeroN : NdM := ⟨0, 0, ⟨#[]⟩, ⟨#[]⟩, [], none, 0, 0⟩
theorem nd_six (x : NdM) : x.cells.size = 6 := rfl
theorem nd_one (x : NdM) : ∀ v ∈ x.cells.toList, v.oneCell' = true := by
  intro v hv
  simp only [NdM.cells, List.mem_cons, List.not_mem_nil, or_false] at hv
  rcases hv with rfl | rfl | rfl | rfl | rfl | rfl <;> rfl
theorem info_node : (Tryz.prog.info? 116).map (·.size) = some 6 := by kernel_rfl
theorem store_n (p v : Value) : Instr.storeAt 116 p v = storeS 116 p v := rfl
theorem store_nd {W : World} {b : Nat} {cs : Array Value} (hg : W.heap[b]? = some (.cells cs 116 (0, 0))) (hs : cs.size = 6) (x : NdM) :
    (storeS 116 (.pointer (some ⟨b, 0, none⟩)) (.agg x.cells)).run Tryz.prog W = .ok () (W.setRow b x.cells) := by
  have h := run_storeVar_row (P := Tryz.prog) W b 116 116 cs x.cells hg (by rw [info_node]; rfl) hs (all_oneCell_toArray (nd_one x))
  unfold storeS
  simp only [Instr.storeAt, Instr.sureAddr, Sem.run_bind, Sem.run_pure, Result.andThen_ok, h]
theorem store_nd_new (W : World) (c : Array Value) (hs : c.size = 6) (x : NdM) :
    (storeS 116 (.pointer (some ⟨W.heap.size, 0, none⟩)) (.agg x.cells)).run Tryz.prog (W.alloc (.cells c 116)) = .ok () (W.alloc (.cells x.cells 116)) := by
  rw [store_nd (heap_alloc_new _ _) hs x, setRow_alloc]
theorem store_nd_fresh (W : World) (x : NdM) :
    (storeS 116 (.pointer (some ⟨W.heap.size, 0, none⟩)) (.agg x.cells)).run Tryz.prog (W.alloc (.cells #[.int .i64 0, .int .i64 0, .string ⟨#[]⟩, .string ⟨#[]⟩, .slice none 0 0, .int .i64 0] 116)) = .ok () (W.alloc (ndO x)) :=
  store_nd_new W _ rfl x
theorem ndIs_of {w : World} {b : Nat} {x : NdM} (h : w.heap[b]? = some (ndO x)) (hr : RdP w x.sl x.L) (hl : x.L.length ≤ 4096) : NdIs w b 0 x := by
  unfold ndO at h
  refine ⟨(Array.getElem?_eq_some_iff.1 h).1, ?_, ?_, ?_, ?_, ?_, ?_, hr, hl⟩ <;> (rw [cell_of_row _ _ _ _ _ _ h]; rfl)
theorem heap_setCell_at {w : World} {b o : Nat} {cs : Array Value} {t : TypeId} {fr : Nat × Nat} (h : w.heap[b]? = some (.cells cs t fr)) (v : Value) : (w.setCell ⟨b, o, none⟩ v).heap[b]? = some (.cells (cs.setIfInBounds o v) t fr) := by
  obtain ⟨hlt, hk⟩ := Array.getElem?_eq_some_iff.1 h
  show (w.heap.modify b _)[b]? = _
  rw [Array.getElem?_eq_getElem (by rw [Array.size_modify]; exact hlt), Array.getElem_modify_self, hk]
  rfl
section
variable {w0 w : World} {pp n c b : Nat} {V : Int → ByteArray} {R : List (Nat × Obj)} {cs : Array Value} {t : TypeId}
theorem PV.into (H : PV w0 pp n c V ((b, .cells cs t (0, 0)) :: R) w) (hR : ∀ x ∈ R, x.1 ≠ b) (ht : t ≠ 101) (hb : w0.heap.size ≤ b) (o : Nat) (v : Value) :
    PV w0 pp n c V ((b, .cells (cs.setIfInBounds o v) t (0, 0)) :: R) (w.setCell ⟨b, o, none⟩ v) :=
  H.swap hR (H.ne List.mem_cons_self rfl ht) (by simp) (fun k _ hk => heap_setCell_other w _ k v hk) (.inl rfl) (heap_setCell_at (H.mem List.mem_cons_self) v) (H.below.setCell (p := ⟨b, o, none⟩) hb v)
theorem PV.whole (H : PV w0 pp n c V ((b, .cells cs t (0, 0)) :: R) w) (hR : ∀ x ∈ R, x.1 ≠ b) (ht : t ≠ 101) (hb : w0.heap.size ≤ b) (cs' : Array Value) :
    PV w0 pp n c V ((b, .cells cs' t (0, 0)) :: R) (w.setRow b cs') :=
  H.swap hR (H.ne List.mem_cons_self rfl ht) (by simp) (fun k _ hk => setRow_other w b k cs' hk) (.inl rfl) (setRow_heap w b cs cs' t (0, 0) (H.mem List.mem_cons_self)) (KA.below_row H.below hb cs')
theorem PV.storeN {z : NdM} (H : PV w0 pp n c V ((b, ndO z) :: R) w) (hR : ∀ x ∈ R, x.1 ≠ b) (hb : w0.heap.size ≤ b) (x : NdM) :
    ∃ W, (storeS 116 (.pointer (some ⟨b, 0, none⟩)) (.agg x.cells)).run Tryz.prog w = .ok () W ∧ PV w0 pp n c V ((b, ndO x) :: R) W :=
  ⟨_, store_nd (H.mem List.mem_cons_self) (nd_six z) x, H.whole hR (by decide) hb x.cells⟩
theorem PV.turn {x y : Nat × Obj} (H : PV w0 pp n c V (x :: y :: R) w) : PV w0 pp n c V (y :: x :: R) w := H.sub _ fun z hz => by
  simp only [List.mem_cons] at hz ⊢
  rcases hz with h | h | h
  · exact .inr (.inl h)
  · exact .inl h
  · exact .inr (.inr h)
theorem PV.drew (H : PV w0 pp n c V R w) : PV w0 pp n c V R w.drew := H.on ⟨rfl, rfl, rfl, Nat.le_refl _, fun _ _ => rfl⟩
theorem PV.lt (H : PV w0 pp n c V R w) {x : Nat × Obj} (hx : x ∈ R) : x.1 < w.heap.size := (Array.getElem?_eq_some_iff.1 (H.mem hx)).1
theorem PV.push (H : PV w0 pp n c V R w) (o : Obj) : PV w0 pp n c V ((w.heap.size, o) :: R) (w.alloc o) := H.add (by go_grown) (Nat.le_refl _) (heap_alloc_new _ _)
theorem PV.drop {x : Nat × Obj} (H : PV w0 pp n c V (x :: R) w) : PV w0 pp n c V R w := H.sub _ fun _ hy => List.mem_cons_of_mem _ hy
end
theorem unpL_mod : ∀ (k : Nat) (d : ByteArray) (L : List Pr), d.size ≤ 4096 → unpL k d = some L → Mod L
  | 0, d, L, _, h => by
    have : some [] = some L := h
    cases this
    intro p hp
    cases hp
  | k + 1, d, L, hd, h => by
    unfold unpL at h
    split at h
    · cases h
    · split at h
      · cases h
      · cases h2 : unpL k (d.extract (2 + bt d 0 + bt d 1).toNat d.size) with
        | none => rw [h2] at h; cases h
        | some M =>
          rw [h2] at h
          have h : some (_ :: M) = some L := h
          cases h
          intro p hp
          rcases List.mem_cons.1 hp with rfl | hp
          · constructor <;> (simp only [ByteArray.size_extract]; omega)
          · exact unpL_mod k _ M (by rw [ByteArray.size_extract]; omega) h2 p hp
theorem unpP_mod {s : ByteArray} {L : List Pr} (hs : s.size ≤ 4096) (h : unpP s = some L) : Mod L := unpL_mod _ _ L (by rw [ByteArray.size_extract]; omega) h
structure Got (x y : NdM) (g : Nat) : Prop where
  at_ : y.at_ = x.at_
  low : y.low = x.low
  high : y.high = x.high
  sl : y.sl = some ⟨g, 0, none⟩
  c : y.c = y.L.length
  next : y.next = x.next
def ReadPost (w0 : World) (pp n c : Nat) (V : Int → ByteArray) (R : List (Nat × Obj)) (x : NdM) (e : Ending) (w' : World) : Prop :=
  (rdP V (outB n (V 0)) x.D = none ∧ e = .returned (.tuple #[.agg x.cells, .int .i64 6]) ∧ PV w0 pp n c V R w') ∨
  ∃ y g, rdP V (outB n (V 0)) x.D = some (y.level, y.L) ∧ Got x y g ∧ (w0.heap.size ≤ g ∧ ∀ z ∈ R, z.1 ≠ g) ∧ e = .returned (.tuple #[.agg y.cells, .int .i64 0]) ∧ PV w0 pp n c V ((g, rowO y.L) :: R) w'
theorem tree_cells {w : World} {tb pp : Nat} {i : Int} (h : w.heap[tb]? = some (treeO pp i)) : w.cell? ⟨tb, 0, none⟩ = some (.pointer (some ⟨pp, 0, none⟩)) ∧ w.cell? ⟨tb, 1, none⟩ = some (.int .i64 i) := by
  unfold treeO at h
  exact ⟨by rw [cell_of_row _ _ _ _ _ _ h]; rfl, by rw [cell_of_row _ _ _ _ _ _ h]; rfl⟩
theorem nd_cells {w : World} {b : Nat} {x : NdM} (h : w.heap[b]? = some (ndO x)) : w.cell? ⟨b, 0, none⟩ = some (.int .i64 x.at_) ∧ w.cell? ⟨b, 1, none⟩ = some (.int .i64 x.level) ∧ w.cell? ⟨b, 2, none⟩ = some (.string x.low) ∧ w.cell? ⟨b, 3, none⟩ = some (.string x.high) ∧ w.cell? ⟨b, 4, none⟩ = some (.slice x.sl x.L.length x.c) ∧ w.cell? ⟨b, 5, none⟩ = some (.int .i64 x.next) := by
  unfold ndO at h
  refine ⟨?_, ?_, ?_, ?_, ?_, ?_⟩ <;> (rw [cell_of_row _ _ _ _ _ _ h]; rfl)
theorem nd_thaw {w : World} {b : Nat} {x : NdM} (h : w.heap[b]? = some (ndO x)) (o : Nat) : w.frozen? ⟨b, o, none⟩ = false := by
  unfold ndO at h
  exact frozen_of_row _ _ _ _ _ h
attribute [local go_sem ↓ high] store_n
section
variable {w0 w : World} {pp n c tb : Nat} {V : Int → ByteArray} {R : List (Nat × Obj)} {i : Int}
set_option maxHeartbeats 4000000 in
theorem nread_any (H : PV w0 pp n c V R w) (hT : (tb, treeO pp i) ∈ R) (hn : 0 < n) (x : NdM) (b0 : -9223372036854775808 ≤ x.at_) (b1 : x.at_ ≤ 9223372036854775807) :
    Calls Tryz.prog 163 #[.pointer (some ⟨tb, 0, none⟩), .agg x.cells] w (ReadPost w0 pp n c V R x) := by
  have H2 := (H.push (ndO x)).push (ndO zeroN)
  rw [show (w.alloc (ndO x)).heap.size = w.heap.size + 1 by simp] at H2
  have hlt0 := H.below.size
  have HRB : Hid (∀ y ∈ (w.heap.size, ndO x) :: R, y.1 ≠ w.heap.size + 1) := Lib.hid fun y hy e => by
    rcases List.mem_cons.1 hy with rfl | hy
    · simp at e
    · have := H.lt hy
      omega
  obtain ⟨W, hW⟩ : ∃ W, (w.alloc (ndO x)).alloc (ndO zeroN) = W := ⟨_, rfl⟩
  rw [hW] at H2
  have H3 := H2.drew
  have hT2 : (tb, treeO pp i) ∈ (w.heap.size + 1, ndO zeroN) :: (w.heap.size, ndO x) :: R := List.mem_cons_of_mem _ (List.mem_cons_of_mem _ hT)
  obtain ⟨t0, t1⟩ := tree_cells (H3.mem hT2)
  obtain ⟨d0, d1, d2, d3, d4, d5⟩ := nd_cells (H3.mem (List.mem_cons_of_mem _ List.mem_cons_self))
  simp only at t0 t1 d0 d1 d2 d3 d4 d5
  have HW : Hid ((w.alloc (ndO x)).alloc (ndO zeroN) = W) := Lib.hid hW
  cases ho : outB n (V 0) x.at_ with
  | false =>
    have HG := Lib.hid (H3.get_no x.at_ b0 b1 hn ho)
    have HP : Hid (rdP V (outB n (V 0)) x.D = none) := by
      refine Lib.hid ?_
      unfold rdP
      exact if_pos ho
    clear H H2 H3 ho hW
    unfold NdM.cells
    go_enter Tryz.func163, Tryz.ntmps163
    go_wp2_with fail
    rw [show ((w.alloc (.cells #[.int .i64 x.at_, .int .i64 x.level, .string x.low, .string x.high, .slice x.sl x.L.length x.c, .int .i64 x.next] 116)).alloc (.cells #[.int .i64 0, .int .i64 0, .string ⟨#[]⟩, .string ⟨#[]⟩, .slice none 0 0, .int .i64 0] 116)) = W from HW.out]
    go_region_law (first
      | (go_simp; (with_reducible refine HG.out.mono ?_); rintro e w4 ⟨rfl, H4⟩; have H4' := Lib.hid H4; clear H4)
      | fail)
    all_goals
      clear d0 d1 d2 d3 d4 d5 t0 t1
      obtain ⟨d0, d1, d2, d3, d4, d5⟩ := nd_cells (H4'.out.mem (List.mem_cons_of_mem _ List.mem_cons_self))
      simp only at d0 d1 d2 d3 d4 d5
      obtain ⟨W5, hst, H5⟩ := H4'.out.storeN HRB.out (by omega) x
      unfold NdM.cells at hst
      have H5' := Lib.hid H5
      clear H5
      go_wp2_with fail
      clear d0 d1 d2 d3 d4 d5 hst
      obtain ⟨d0, d1, d2, d3, d4, d5⟩ := nd_cells (H5'.out.mem List.mem_cons_self)
      simp only at d0 d1 d2 d3 d4 d5
      refine bodyPost_ret (v := .tuple #[.agg x.cells, .int .i64 6]) (by simp [results, Tryz.results163, go_sem, d0, d1, d2, d3, d4, d5, NdM.cells]) rfl ?_
      exact .inl ⟨HP.out, rfl, H5'.out.drop.drop⟩
  | true =>
    have hin : 2 ≤ x.at_ ∧ x.at_ < n := by
      unfold outB at ho
      simp only [Bool.and_eq_true, decide_eq_true_eq] at ho
      omega
    have hsv := H.size (k := x.at_) (by omega) hin.2
    have HG := Lib.hid (H3.get x.at_ b0 b1 hn ho)
    have HO := Lib.hid ho
    clear H H2 H3 ho hW
    unfold NdM.cells
    go_enter Tryz.func163, Tryz.ntmps163
    go_wp2_with fail
    rw [show ((w.alloc (.cells #[.int .i64 x.at_, .int .i64 x.level, .string x.low, .string x.high, .slice x.sl x.L.length x.c, .int .i64 x.next] 116)).alloc (.cells #[.int .i64 0, .int .i64 0, .string ⟨#[]⟩, .string ⟨#[]⟩, .slice none 0 0, .int .i64 0] 116)) = W from HW.out]
    obtain ⟨s, hs⟩ : ∃ s, V x.at_ = s := ⟨_, rfl⟩
    rw [hs] at hsv HG
    have HS := Lib.hid hs
    clear hs
    go_region_law (first
      | (go_simp; (with_reducible refine HG.out.mono ?_); rintro e w4 ⟨rfl, H4⟩; have H4' := Lib.hid H4; clear H4)
      | fail)
    all_goals
      clear d0 d1 d2 d3 d4 d5 t0 t1 HG
      obtain ⟨d0, d1, d2, d3, d4, d5⟩ := nd_cells (H4'.out.mem (List.mem_cons_of_mem _ List.mem_cons_self))
      simp only at d0 d1 d2 d3 d4 d5
      have hst := store_nd_fresh w4 x
      unfold NdM.cells at hst
      have H5 := H4'.out.push (ndO x)
      have HU := Lib.hid (unpack_any s (w4.alloc (ndO x)) (by omega) (by omega))
      have HRC : Hid (∀ y ∈ (w.heap.size + 1, ndO zeroN) :: (w.heap.size, ndO x) :: R, y.1 ≠ w4.heap.size) := Lib.hid fun y hy e => by
        have := H4'.out.lt hy
        omega
      obtain ⟨h8, hw8⟩ : ∃ q, w4.heap.size = q := ⟨_, rfl⟩
      have HW8 := Lib.hid hw8
      have HL8 : Hid (w0.heap.size ≤ w4.heap.size) := Lib.hid H4'.out.below.size
      have H5' := Lib.hid H5
      clear H5 hw8
      obtain ⟨W5, hW5⟩ : ∃ W5, w4.alloc (ndO x) = W5 := ⟨_, rfl⟩
      rw [hW5] at HU H5' hst
      clear hW5
      go_wp2_with fail
      refine HU.out.mono ?_
      rintro e w6 (⟨L, hL, g, rfl, hg, hro, hb6⟩ | ⟨hnone, rfl, hb6⟩)
      · have hlen := unpP_len hL
        have hmod := unpP_mod (by omega) hL
        have H6 := (H5'.out.add hb6 hg hro).turn
        have hgq : g ≠ w4.heap.size := fun e => by
          have := (List.mem_cons_self (a := (w4.heap.size, ndO x)) (l := (w.heap.size + 1, ndO zeroN) :: (w.heap.size, ndO x) :: R))
          have := H5'.out.lt this
          omega
        have hrc : ∀ y ∈ (g, rowO L) :: (w.heap.size + 1, ndO zeroN) :: (w.heap.size, ndO x) :: R, y.1 ≠ w4.heap.size := fun y hy => by
          rcases List.mem_cons.1 hy with rfl | hy
          · exact hgq
          · exact HRC.out y hy
        have HGN : Hid (g ≠ w.heap.size + 1) := Lib.hid fun e => by
          have := H5'.out.lt (x := (w.heap.size + 1, ndO zeroN)) (List.mem_cons_of_mem _ List.mem_cons_self)
          simp only at this
          omega
        have HGF : Hid (w0.heap.size ≤ g ∧ ∀ z ∈ R, z.1 ≠ g) := Lib.hid ⟨Nat.le_trans H5'.out.below.size hg, fun z hz e => by
          have := H5'.out.lt (x := z) (List.mem_cons_of_mem _ (List.mem_cons_of_mem _ (List.mem_cons_of_mem _ hz)))
          omega⟩
        obtain ⟨lv, hlv⟩ : ∃ lv, bt s 0 = lv := ⟨_, rfl⟩
        rw [hlv]
        have H7 := (H6.into hrc (by decide) HL8.out 1 (.int .i64 lv))
        have H8 := (H7.into hrc (by decide) HL8.out 4 (.slice (some ⟨g, 0, none⟩) L.length L.length))
        obtain ⟨c0, c1, c2, c3, c4, c5⟩ := nd_cells (H6.mem List.mem_cons_self)
        have f1 := nd_thaw (H6.mem List.mem_cons_self) 1
        have f4 := nd_thaw (H6.mem List.mem_cons_self) 4
        simp only at c0 c1 c2 c3 c4 c5 f1 f4
        obtain ⟨W8, hW8⟩ : ∃ W8, (w6.setCell ⟨w4.heap.size, 1, none⟩ (.int .i64 lv)).setCell ⟨w4.heap.size, 4, none⟩ (.slice (some ⟨g, 0, none⟩) L.length L.length) = W8 := ⟨_, rfl⟩
        rw [hW8] at H8
        obtain ⟨y, hy⟩ : ∃ y : NdM, { x with level := lv, L := L, sl := some ⟨g, 0, none⟩, c := L.length } = y := ⟨_, rfl⟩
        have HY := Lib.hid hy
        have H8 : PV w0 pp n c V ((w4.heap.size, ndO y) :: (g, rowO L) :: (w.heap.size + 1, ndO zeroN) :: (w.heap.size, ndO x) :: R) W8 := by rw [← hy]; exact H8
        have hyL : y.level = lv ∧ y.L = L ∧ y.sl = some ⟨g, 0, none⟩ ∧ y.low = x.low ∧ y.high = x.high := by rw [← hy]; exact ⟨rfl, rfl, rfl, rfl, rfl⟩
        obtain ⟨y1, y2, y3, y4, y5⟩ := hyL
        have HN := Lib.hid (ndIs_of (H8.mem List.mem_cons_self) (by rw [y2, y3]; exact rdP_of (H8.mem (List.mem_cons_of_mem _ List.mem_cons_self))) (by rw [y2]; omega))
        have HLW := Lib.hid (lawful_any HN.out (by rw [y2]; exact hmod))
        have HRD : Hid (rdP V (outB n (V 0)) x.D = if x.level ≠ 0 ∧ x.level ≠ lv then none else if lawB lv x.low x.high L = false then none else some (lv, L)) := by
          refine Lib.hid ?_
          unfold rdP
          rw [if_neg (by rw [show x.D.at_ = x.at_ from rfl, HO.out]; simp), show V x.D.at_ = s from HS.out, hL, hlv]
          rfl
        rw [y1, y2, y4, y5] at HLW
        have H8' := Lib.hid H8
        clear d0 d1 d2 d3 d4 d5 hy y1 y2 y3 y4 y5 H6 H7 H8 hL hmod hlen hgq hrc hro hb6 hg hlv
        obtain ⟨d0, d1, d2, d3, d4, d5⟩ := nd_cells (H8'.out.mem (List.mem_cons_of_mem _ (List.mem_cons_of_mem _ (List.mem_cons_of_mem _ List.mem_cons_self))))
        simp only at d0 d1 d2 d3 d4 d5
        by_cases hlev : x.level ≠ 0 ∧ x.level ≠ lv
        · have HP : Hid (rdP V (outB n (V 0)) x.D = none) := by
            refine Lib.hid ?_
            rw [HRD.out, if_pos hlev]
          have g1 : (x.level != 0) = true := by simpa using hlev.1
          have g2 : (x.level != lv) = true := by simpa using hlev.2
          obtain ⟨W10, hst2, H10⟩ := (H8'.out.drop.drop).storeN HRB.out (by have := HL8.out; omega) x
          unfold NdM.cells at hst2
          have H10' := Lib.hid H10
          clear H10 hlev
          go_wp2_with fail
          clear d0 d1 d2 d3 d4 d5 hst2
          obtain ⟨d0, d1, d2, d3, d4, d5⟩ := nd_cells (H10'.out.mem List.mem_cons_self)
          simp only at d0 d1 d2 d3 d4 d5
          refine bodyPost_ret (v := .tuple #[.agg x.cells, .int .i64 6]) (by simp [results, Tryz.results163, go_sem, d0, d1, d2, d3, d4, d5, NdM.cells]) rfl ?_
          exact .inl ⟨HP.out, rfl, H10'.out.drop.drop⟩
        · have g3 : (x.level != 0 && x.level != lv) = false := by
            rw [Bool.eq_false_iff]
            intro c
            simp only [Bool.and_eq_true, bne_iff_ne] at c
            exact hlev c
          cases hz : (x.level != 0) with
          | true =>
            rw [hz, Bool.true_and] at g3
            have hHR : Hid (rdP V (outB n (V 0)) x.D = if lawB lv x.low x.high L = false then none else some (lv, L)) := by
              refine Lib.hid ?_
              rw [HRD.out, if_neg hlev]
            clear hlev
            cases hlw : lawB lv x.low x.high L with
            | true =>
              rw [hlw] at HLW
              have HP : Hid (rdP V (outB n (V 0)) x.D = some (lv, L)) := by
                refine Lib.hid ?_
                rw [hHR.out, hlw, if_neg (by simp)]
              clear hlw hHR
              go_wp2_with fail
              refine HLW.out.mono ?_
              rintro e w9 ⟨rfl, hb9⟩
              have H9 := H8'.out.on hb9
              clear d0 d1 d2 d3 d4 d5 hb9
              obtain ⟨d0, d1, d2, d3, d4, d5⟩ := nd_cells (H9.mem List.mem_cons_self)
              simp only at d0 d1 d2 d3 d4 d5
              have H9b : PV w0 pp n c V ((w.heap.size + 1, ndO zeroN) :: (g, rowO L) :: R) w9 := H9.sub _ fun z hz => by
                simp only [List.mem_cons] at hz ⊢
                rcases hz with h | h | h
                · exact .inr (.inr (.inl h))
                · exact .inr (.inl h)
                · exact .inr (.inr (.inr (.inr h)))
              obtain ⟨W10, hst2, H10⟩ := H9b.storeN (fun z hz e => by
                rcases List.mem_cons.1 hz with rfl | hz
                · exact HGN.out e
                · exact HRB.out z (List.mem_cons_of_mem _ hz) e) (by have := HL8.out; omega) y
              unfold NdM.cells at hst2
              have H10' := Lib.hid H10
              clear H10 H9 H9b
              go_wp2_with fail
              clear d0 d1 d2 d3 d4 d5 hst2
              obtain ⟨d0, d1, d2, d3, d4, d5⟩ := nd_cells (H10'.out.mem List.mem_cons_self)
              simp only at d0 d1 d2 d3 d4 d5
              refine bodyPost_ret (v := .tuple #[.agg y.cells, .int .i64 0]) (by simp [results, Tryz.results163, go_sem, d0, d1, d2, d3, d4, d5, NdM.cells]) rfl ?_
              exact .inr ⟨y, g, by rw [HP.out, ← HY.out], by rw [← HY.out]; exact ⟨rfl, rfl, rfl, rfl, rfl, rfl⟩, HGF.out, rfl, by rw [← HY.out] at H10' ⊢; exact H10'.out.drop⟩
            | false =>
              rw [hlw] at HLW
              have HP : Hid (rdP V (outB n (V 0)) x.D = none) := by
                refine Lib.hid ?_
                rw [hHR.out, hlw, if_pos rfl]
              clear hlw hHR
              go_wp2_with fail
              refine HLW.out.mono ?_
              rintro e w9 ⟨rfl, hb9⟩
              have H9 := H8'.out.on hb9
              clear d0 d1 d2 d3 d4 d5 hb9
              obtain ⟨d0, d1, d2, d3, d4, d5⟩ := nd_cells (H9.mem (List.mem_cons_of_mem _ (List.mem_cons_of_mem _ (List.mem_cons_of_mem _ List.mem_cons_self))))
              simp only at d0 d1 d2 d3 d4 d5
              obtain ⟨W10, hst2, H10⟩ := (H9.drop.drop).storeN HRB.out (by have := HL8.out; omega) x
              unfold NdM.cells at hst2
              have H10' := Lib.hid H10
              clear H10 H9
              go_wp2_with fail
              clear d0 d1 d2 d3 d4 d5 hst2
              obtain ⟨d0, d1, d2, d3, d4, d5⟩ := nd_cells (H10'.out.mem List.mem_cons_self)
              simp only at d0 d1 d2 d3 d4 d5
              refine bodyPost_ret (v := .tuple #[.agg x.cells, .int .i64 6]) (by simp [results, Tryz.results163, go_sem, d0, d1, d2, d3, d4, d5, NdM.cells]) rfl ?_
              exact .inl ⟨HP.out, rfl, H10'.out.drop.drop⟩
          | false =>
            clear g3
            have hHR : Hid (rdP V (outB n (V 0)) x.D = if lawB lv x.low x.high L = false then none else some (lv, L)) := by
              refine Lib.hid ?_
              rw [HRD.out, if_neg hlev]
            clear hlev
            cases hlw : lawB lv x.low x.high L with
            | true =>
              rw [hlw] at HLW
              have HP : Hid (rdP V (outB n (V 0)) x.D = some (lv, L)) := by
                refine Lib.hid ?_
                rw [hHR.out, hlw, if_neg (by simp)]
              clear hlw hHR
              go_wp2_with fail
              refine HLW.out.mono ?_
              rintro e w9 ⟨rfl, hb9⟩
              have H9 := H8'.out.on hb9
              clear d0 d1 d2 d3 d4 d5 hb9
              obtain ⟨d0, d1, d2, d3, d4, d5⟩ := nd_cells (H9.mem List.mem_cons_self)
              simp only at d0 d1 d2 d3 d4 d5
              have H9b : PV w0 pp n c V ((w.heap.size + 1, ndO zeroN) :: (g, rowO L) :: R) w9 := H9.sub _ fun z hz => by
                simp only [List.mem_cons] at hz ⊢
                rcases hz with h | h | h
                · exact .inr (.inr (.inl h))
                · exact .inr (.inl h)
                · exact .inr (.inr (.inr (.inr h)))
              obtain ⟨W10, hst2, H10⟩ := H9b.storeN (fun z hz e => by
                rcases List.mem_cons.1 hz with rfl | hz
                · exact HGN.out e
                · exact HRB.out z (List.mem_cons_of_mem _ hz) e) (by have := HL8.out; omega) y
              unfold NdM.cells at hst2
              have H10' := Lib.hid H10
              clear H10 H9 H9b
              go_wp2_with fail
              clear d0 d1 d2 d3 d4 d5 hst2
              obtain ⟨d0, d1, d2, d3, d4, d5⟩ := nd_cells (H10'.out.mem List.mem_cons_self)
              simp only at d0 d1 d2 d3 d4 d5
              refine bodyPost_ret (v := .tuple #[.agg y.cells, .int .i64 0]) (by simp [results, Tryz.results163, go_sem, d0, d1, d2, d3, d4, d5, NdM.cells]) rfl ?_
              exact .inr ⟨y, g, by rw [HP.out, ← HY.out], by rw [← HY.out]; exact ⟨rfl, rfl, rfl, rfl, rfl, rfl⟩, HGF.out, rfl, by rw [← HY.out] at H10' ⊢; exact H10'.out.drop⟩
            | false =>
              rw [hlw] at HLW
              have HP : Hid (rdP V (outB n (V 0)) x.D = none) := by
                refine Lib.hid ?_
                rw [hHR.out, hlw, if_pos rfl]
              clear hlw hHR
              go_wp2_with fail
              refine HLW.out.mono ?_
              rintro e w9 ⟨rfl, hb9⟩
              have H9 := H8'.out.on hb9
              clear d0 d1 d2 d3 d4 d5 hb9
              obtain ⟨d0, d1, d2, d3, d4, d5⟩ := nd_cells (H9.mem (List.mem_cons_of_mem _ (List.mem_cons_of_mem _ (List.mem_cons_of_mem _ List.mem_cons_self))))
              simp only at d0 d1 d2 d3 d4 d5
              obtain ⟨W10, hst2, H10⟩ := (H9.drop.drop).storeN HRB.out (by have := HL8.out; omega) x
              unfold NdM.cells at hst2
              have H10' := Lib.hid H10
              clear H10 H9
              go_wp2_with fail
              clear d0 d1 d2 d3 d4 d5 hst2
              obtain ⟨d0, d1, d2, d3, d4, d5⟩ := nd_cells (H10'.out.mem List.mem_cons_self)
              simp only at d0 d1 d2 d3 d4 d5
              refine bodyPost_ret (v := .tuple #[.agg x.cells, .int .i64 6]) (by simp [results, Tryz.results163, go_sem, d0, d1, d2, d3, d4, d5, NdM.cells]) rfl ?_
              exact .inl ⟨HP.out, rfl, H10'.out.drop.drop⟩
      · have HP : Hid (rdP V (outB n (V 0)) x.D = none) := by
          refine Lib.hid ?_
          unfold rdP
          rw [if_neg (by rw [show x.D.at_ = x.at_ from rfl, HO.out]; simp), show V x.D.at_ = s from HS.out, hnone]
        have H6 := (H5'.out.on hb6)
        have H7 := (H6.into HRC.out (by decide) HL8.out 1 (.int .i64 0))
        have H8 := (H7.into HRC.out (by decide) HL8.out 4 (.slice none 0 0))
        obtain ⟨c0, c1, c2, c3, c4, c5⟩ := nd_cells (H6.mem List.mem_cons_self)
        have f1 := nd_thaw (H6.mem List.mem_cons_self) 1
        have f4 := nd_thaw (H6.mem List.mem_cons_self) 4
        simp only at c0 c1 c2 c3 c4 c5 f1 f4
        obtain ⟨W8, hW8⟩ : ∃ W8, (w6.setCell ⟨w4.heap.size, 1, none⟩ (.int .i64 0)).setCell ⟨w4.heap.size, 4, none⟩ (.slice none 0 0) = W8 := ⟨_, rfl⟩
        rw [hW8] at H8
        clear d0 d1 d2 d3 d4 d5
        obtain ⟨d0, d1, d2, d3, d4, d5⟩ := nd_cells (H8.mem (List.mem_cons_of_mem _ (List.mem_cons_of_mem _ List.mem_cons_self)))
        simp only at d0 d1 d2 d3 d4 d5
        have H9 := H8.drop
        obtain ⟨W10, hst2, H10⟩ := H9.storeN HRB.out (by have := HL8.out; omega) x
        unfold NdM.cells at hst2
        have H10' := Lib.hid H10
        clear H6 H7 H8 H9 H10 hnone hb6
        go_wp2_with fail
        clear d0 d1 d2 d3 d4 d5 hst2
        obtain ⟨d0, d1, d2, d3, d4, d5⟩ := nd_cells (H10'.out.mem List.mem_cons_self)
        simp only at d0 d1 d2 d3 d4 d5
        refine bodyPost_ret (v := .tuple #[.agg x.cells, .int .i64 6]) (by simp [results, Tryz.results163, go_sem, d0, d1, d2, d3, d4, d5, NdM.cells]) rfl ?_
        exact .inl ⟨HP.out, rfl, H10'.out.drop.drop⟩
end
end Go.Proofs.YtcjfnfdinhbdlaaGreatDoor
