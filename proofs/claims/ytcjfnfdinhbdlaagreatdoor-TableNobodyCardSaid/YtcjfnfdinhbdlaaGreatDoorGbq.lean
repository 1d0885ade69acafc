import Derived.Test.YtcjfnfdinhbdlaaGreatDoorGbd
import Derived.Test.YtcjfnfdinhbdlaaGreatDoorGbp
import Derived.Test.YtcjfnfdinhbdlaaGreatDoorGbn
import Derived.Test.YtcjfnfdinhbdlaaGreatDoorGbc
import Derived.Deep.Upon
import Derived.Deep.AppendLies
import Derived.Test.YtcjfnfdinhbdlaaGreatDoorGak
import Derived.Laws.OwnMore
import Derived.Deep.MidRow
import Derived.Test.YtcjfnfdinhbdlaaGreatDoorGan
import Derived.StringKeys
import Derived.Maps.OwnSet
import Derived.Test.YtcjfnfdinhbdlaaGreatDoorGbh
import Derived.Test.YtcjfnfdinhbdlaaGreatDoorGax
import Derived.Deep.RegionLaw
namespace Go.Proofs.YtcjfnfdinhbdlaaGreatDoor
set_option maxRecDepth 100000
open Go.ChangeShapes Go.WideShapes Go.ChangeAt Go.RowKit Go.PlainAid Go.Deep
attribute [local go_sem ↓ high] load_op store_o
def tabO (tb : Nat → Nat) : Obj := .cells #[.pointer (some ⟨tb 0, 0, none⟩), .pointer (some ⟨tb 1, 0, none⟩), .pointer (some ⟨tb 2, 0, none⟩), .pointer (some ⟨tb 3, 0, none⟩), .pointer (some ⟨tb 4, 0, none⟩)] 69 (0, 0)
structure TabR (pp tt : Nat) (tb : Nat → Nat) (R : List (Nat × Obj)) : Prop where
  tab : (tt, tabO tb) ∈ R
  tree : ∀ i : Nat, i < 5 → (tb i, treeO pp i) ∈ R
theorem TabR.more {pp tt : Nat} {tb : Nat → Nat} {R R' : List (Nat × Obj)} (h : TabR pp tt tb R) (hs : ∀ y ∈ R, y ∈ R') : TabR pp tt tb R' := ⟨hs _ h.tab, fun i hi => hs _ (h.tree i hi)⟩
theorem tab_cells {w : World} {tt : Nat} {tb : Nat → Nat} (h : w.heap[tt]? = some (tabO tb)) : w.cell? ⟨tt, 0, none⟩ = some (.pointer (some ⟨tb 0, 0, none⟩)) ∧ w.cell? ⟨tt, 1, none⟩ = some (.pointer (some ⟨tb 1, 0, none⟩)) ∧ w.cell? ⟨tt, 2, none⟩ = some (.pointer (some ⟨tb 2, 0, none⟩)) ∧ w.cell? ⟨tt, 3, none⟩ = some (.pointer (some ⟨tb 3, 0, none⟩)) ∧ w.cell? ⟨tt, 4, none⟩ = some (.pointer (some ⟨tb 4, 0, none⟩)) := by
  unfold tabO at h
  refine ⟨?_, ?_, ?_, ?_, ?_⟩ <;> (rw [cell_of_row _ _ _ _ _ _ h]; rfl)
theorem tmade_yes {w : World} {tt a : Nat} (h : w.cell? ⟨tt, 0, none⟩ = some (.pointer (some ⟨a, 0, none⟩))) : Calls Tryz.prog 56 #[.pointer (some ⟨tt, 0, none⟩)] w fun e w' => e = .returned (.bool true) ∧ w = w' := by
  go_enter Tryz.func56, Tryz.ntmps56
  go_wp2
  go_returns
  exact ⟨rfl, rfl⟩
theorem tmade_zero {w : World} {tt : Nat} (h : w.cell? ⟨tt, 0, none⟩ = some (.pointer none)) : Calls Tryz.prog 56 #[.pointer (some ⟨tt, 0, none⟩)] w fun e w' => e = .returned (.bool false) ∧ w = w' := by
  go_enter Tryz.func56, Tryz.ntmps56
  go_wp2
  go_returns
  exact ⟨rfl, rfl⟩
theorem tmade_nil (w : World) : Calls Tryz.prog 56 #[.pointer none] w fun e w' => e = .returned (.bool false) ∧ w = w' := by
  go_enter Tryz.func56, Tryz.ntmps56
  go_wp2
  go_returns
  exact ⟨rfl, rfl⟩
def rdO (k s : ByteArray) : Option OpV := match decZ s with
  | some o => if wayS 0 o = k then some o else none
  | none => none
def gotV (x : Option OpV) : Value := match x with
  | none => .tuple #[Value.agg #[Value.int .i64 0, Value.int .i64 0, Value.int .i64 0, Value.int .i64 0, Value.int .i64 0, Value.int .i64 0, Value.int .i64 0, Value.bool false, Value.int .i64 0, Value.int .i64 0, Value.int .i64 0], .int .i64 6]
  | some o => .tuple #[Value.agg #[Value.int .i64 o.id, Value.int .i64 o.proc, Value.int .i64 o.obj, Value.int .i64 o.kind, Value.int .i64 o.meth, Value.int .i64 o.arg, Value.int .i64 o.sec, Value.bool o.done, Value.int .i64 o.res, Value.int .i64 o.inv, Value.int .i64 o.ret], .int .i64 0]
theorem texts_same (a b : ByteArray) : (a.toList == b.toList) = decide (a = b) := by
  by_cases h : a = b
  · subst h
    simp
  · rw [decide_eq_false h, beq_eq_false_iff_ne]
    exact fun e => h (text_eq e)
set_option maxHeartbeats 2000000 in
theorem tread_any (k s : ByteArray) (w : World) (hR : RulesAt w) (hs : s.size ≤ 140737488351232) :
    Calls Tryz.prog 74 #[.string k, .string s] w fun e w' => e = .returned (gotV (rdO k s)) ∧ Below w.heap.size w w' := by
  have q0 : OpAt (w.alloc (.cells #[Value.int .i64 0, Value.int .i64 0, Value.int .i64 0, Value.int .i64 0, Value.int .i64 0, Value.int .i64 0, Value.int .i64 0, Value.bool false, Value.int .i64 0, Value.int .i64 0, Value.int .i64 0] 32)) w.heap.size zeroV := heap_alloc_new w _
  have hb0 : Below w.heap.size w (w.alloc (.cells #[Value.int .i64 0, Value.int .i64 0, Value.int .i64 0, Value.int .i64 0, Value.int .i64 0, Value.int .i64 0, Value.int .i64 0, Value.bool false, Value.int .i64 0, Value.int .i64 0, Value.int .i64 0] 32)) := by go_grown
  obtain ⟨W0, hW0⟩ : ∃ W, w.alloc (.cells #[Value.int .i64 0, Value.int .i64 0, Value.int .i64 0, Value.int .i64 0, Value.int .i64 0, Value.int .i64 0, Value.int .i64 0, Value.bool false, Value.int .i64 0, Value.int .i64 0, Value.int .i64 0] 32) = W := ⟨_, rfl⟩
  rw [hW0] at q0 hb0
  have HD := Lib.hid (decode_any s W0 (hR.on hb0) hs)
  have hsz : w.heap.size < W0.heap.size := heap_inO q0
  have Q0 := Lib.hid q0
  have HB0 := Lib.hid hb0
  clear q0 hb0 hR
  go_enter Tryz.func74, Tryz.ntmps74
  go_wp2_with fail
  clear hW0
  refine HD.out.mono ?_
  rintro e w1 ⟨rfl, hb1⟩
  have HB1 := Lib.hid (HB0.out.on hb1)
  have Q1 := Q0.out.on hb1
  have hsz1 : w.heap.size < w1.heap.size := heap_inO Q1
  cases hd : decZ s with
  | none =>
    have HE := Lib.hid (show rdO k s = none by unfold rdO; rw [hd])
    have hst := store_op_new w1 #[Value.int .i64 0, Value.int .i64 0, Value.int .i64 0, Value.int .i64 0, Value.int .i64 0, Value.int .i64 0, Value.int .i64 0, Value.bool false, Value.int .i64 0, Value.int .i64 0, Value.int .i64 0] rfl zeroV
    have q2 : OpAt (w1.alloc (.cells #[Value.int .i64 zeroV.id, Value.int .i64 zeroV.proc, Value.int .i64 zeroV.obj, Value.int .i64 zeroV.kind, Value.int .i64 zeroV.meth, Value.int .i64 zeroV.arg, Value.int .i64 zeroV.sec, Value.bool zeroV.done, Value.int .i64 zeroV.res, Value.int .i64 zeroV.inv, Value.int .i64 zeroV.ret] 32)) w1.heap.size zeroV := OpAt.box w1 zeroV
    have hb2 : Below w1.heap.size w1 (w1.alloc (.cells #[Value.int .i64 zeroV.id, Value.int .i64 zeroV.proc, Value.int .i64 zeroV.obj, Value.int .i64 zeroV.kind, Value.int .i64 zeroV.meth, Value.int .i64 zeroV.arg, Value.int .i64 zeroV.sec, Value.bool zeroV.done, Value.int .i64 zeroV.res, Value.int .i64 zeroV.inv, Value.int .i64 zeroV.ret] 32)) := by go_grown
    have Q2 := Q1.on hb2
    obtain ⟨W5, hs5, q5, hb5, _, _⟩ := put_box Q2 (Nat.le_refl _) (HB1.out.on hb2) (Nat.le_refl _) zeroV
    dsimp only [zeroV] at hst hs5
    have HB5 := Lib.hid hb5
    have Q5 := Lib.hid q5
    clear hd hb1 Q1 q2 hb2 Q2 q5 hb5 HD
    unfold decV
    go_wp2_with fail
    have q6 := cells11 Q5.out
    refine bodyPost_ret (v := .tuple #[Value.agg #[Value.int .i64 zeroV.id, Value.int .i64 zeroV.proc, Value.int .i64 zeroV.obj, Value.int .i64 zeroV.kind, Value.int .i64 zeroV.meth, Value.int .i64 zeroV.arg, Value.int .i64 zeroV.sec, Value.bool zeroV.done, Value.int .i64 zeroV.res, Value.int .i64 zeroV.inv, Value.int .i64 zeroV.ret], .int .i64 6]) (by simp [results, Tryz.results74, go_sem, q6]) rfl ?_
    exact ⟨by rw [HE.out]; rfl, HB5.out⟩
  | some o =>
    have hck := (enc_dec hd).1
    have hst := store_op_new w1 #[Value.int .i64 0, Value.int .i64 0, Value.int .i64 0, Value.int .i64 0, Value.int .i64 0, Value.int .i64 0, Value.int .i64 0, Value.bool false, Value.int .i64 0, Value.int .i64 0, Value.int .i64 0] rfl o
    have q2 : OpAt (w1.alloc (.cells #[Value.int .i64 o.id, Value.int .i64 o.proc, Value.int .i64 o.obj, Value.int .i64 o.kind, Value.int .i64 o.meth, Value.int .i64 o.arg, Value.int .i64 o.sec, Value.bool o.done, Value.int .i64 o.res, Value.int .i64 o.inv, Value.int .i64 o.ret] 32)) w1.heap.size o := OpAt.box w1 o
    have hb2 : Below w1.heap.size w1 (w1.alloc (.cells #[Value.int .i64 o.id, Value.int .i64 o.proc, Value.int .i64 o.obj, Value.int .i64 o.kind, Value.int .i64 o.meth, Value.int .i64 o.arg, Value.int .i64 o.sec, Value.bool o.done, Value.int .i64 o.res, Value.int .i64 o.inv, Value.int .i64 o.ret] 32)) := by go_grown
    have Q2 := Q1.on hb2
    have HB2 := Lib.hid (HB1.out.on hb2)
    have l2 := q2.load
    have HK := Lib.hid (wayKey_any 0 o (w1.alloc (.cells #[Value.int .i64 o.id, Value.int .i64 o.proc, Value.int .i64 o.obj, Value.int .i64 o.kind, Value.int .i64 o.meth, Value.int .i64 o.arg, Value.int .i64 o.sec, Value.bool o.done, Value.int .i64 o.res, Value.int .i64 o.inv, Value.int .i64 o.ret] 32)) (wayI_in hck 0))
    have hte := texts_same (wayS 0 o) k
    have HQ := Lib.hid (And.intro hd (And.intro q2 Q2))
    obtain ⟨tk, htk⟩ : ∃ tk, wayS 0 o = tk := ⟨_, rfl⟩
    rw [htk] at hte HK
    have HTK := Lib.hid htk
    clear hd hck hb1 Q1 q2 hb2 Q2 HD htk
    unfold decV
    go_wp2_with fail
    refine HK.out.mono ?_
    rintro e w3 ⟨rfl, hb3⟩
    have q3 := HQ.out.2.1.on hb3
    have Q3 := HQ.out.2.2.on hb3
    have HB3 := Lib.hid (HB2.out.on hb3)
    clear hst l2
    by_cases he : tk = k
    · rw [decide_eq_true he] at hte
      have HE := Lib.hid (show rdO k s = some o by unfold rdO; rw [HQ.out.1]; show (if wayS 0 o = k then _ else _) = _; rw [if_pos (by rw [HTK.out]; exact he)])
      have l3 := q3.load
      obtain ⟨W5, hs5, q5, hb5, _, _⟩ := put_box Q3 (Nat.le_refl _) HB3.out (Nat.le_refl _) o
      have HB5 := Lib.hid hb5
      have Q5 := Lib.hid q5
      clear he hb3 q3 Q3 q5 hb5
      go_wp2_with fail
      have q6 := cells11 Q5.out
      refine bodyPost_ret (v := .tuple #[Value.agg #[Value.int .i64 o.id, Value.int .i64 o.proc, Value.int .i64 o.obj, Value.int .i64 o.kind, Value.int .i64 o.meth, Value.int .i64 o.arg, Value.int .i64 o.sec, Value.bool o.done, Value.int .i64 o.res, Value.int .i64 o.inv, Value.int .i64 o.ret], .int .i64 0]) (by simp [results, Tryz.results74, go_sem, q6]) rfl ?_
      exact ⟨by rw [HE.out]; rfl, HB5.out⟩
    · rw [decide_eq_false he] at hte
      have HE := Lib.hid (show rdO k s = none by unfold rdO; rw [HQ.out.1]; show (if wayS 0 o = k then _ else _) = _; rw [if_neg (by rw [HTK.out]; exact he)])
      obtain ⟨W5, hs5, q5, hb5, _, _⟩ := put_box Q3 (Nat.le_refl _) HB3.out (Nat.le_refl _) zeroV
      dsimp only [zeroV] at hs5
      have HB5 := Lib.hid hb5
      have Q5 := Lib.hid q5
      clear he hb3 q3 Q3 q5 hb5
      go_wp2_with fail
      have q6 := cells11 Q5.out
      refine bodyPost_ret (v := .tuple #[Value.agg #[Value.int .i64 zeroV.id, Value.int .i64 zeroV.proc, Value.int .i64 zeroV.obj, Value.int .i64 zeroV.kind, Value.int .i64 zeroV.meth, Value.int .i64 zeroV.arg, Value.int .i64 zeroV.sec, Value.bool zeroV.done, Value.int .i64 zeroV.res, Value.int .i64 zeroV.inv, Value.int .i64 zeroV.ret], .int .i64 6]) (by simp [results, Tryz.results74, go_sem, q6]) rfl ?_
      exact ⟨by rw [HE.out]; rfl, HB5.out⟩
section
variable {w0 w w' : World} {pp n c tt : Nat} {tb : Nat → Nat} {V : Int → ByteArray} {R : List (Nat × Obj)} {u0 : Nat} {RR : Nat → List Pr} {QQ : Nat → List Int}
theorem PV.opAt {b : Nat} {x : OpV} (H : PV w0 pp n c V R w) (hm : (b, opO x) ∈ R) : OpAt w b x := H.mem hm
theorem PV.storeO {b : Nat} {z : OpV} (H : PV w0 pp n c V ((b, opO z) :: R) w) (hR : ∀ x ∈ R, x.1 ≠ b) (hb : w0.heap.size ≤ b) (x : OpV) :
    ∃ W, (storeS 32 (.pointer (some ⟨b, 0, none⟩)) (Value.agg #[Value.int .i64 x.id, Value.int .i64 x.proc, Value.int .i64 x.obj, Value.int .i64 x.kind, Value.int .i64 x.meth, Value.int .i64 x.arg, Value.int .i64 x.sec, Value.bool x.done, Value.int .i64 x.res, Value.int .i64 x.inv, Value.int .i64 x.ret])).run Tryz.prog w = .ok () W ∧ PV w0 pp n c V ((b, opO x) :: R) W :=
  ⟨_, store_op (H.opAt List.mem_cons_self) rfl x, H.whole hR (by decide) hb _⟩
theorem PV.fresh (H : PV w0 pp n c V R w) : ∀ x ∈ R, x.1 ≠ w.heap.size := fun _ hx e => by have := H.lt hx; omega
def getO (id : Int) (R0 : List Pr) : Option OpV := match getB (keyS [id]) R0 with
  | some s => rdO (keyS [id]) s
  | none => none
theorem TreesV.get {key : ByteArray} {s : ByteArray} {z : Int} {i : Nat} (h : TreesV V n u0 RR QQ) (hi : i < 5) (hg : GetEx V n i key s z) : (∃ v, getB key (RR i) = some v ∧ s = v ∧ z = 0) ∨ (getB key (RR i) = none ∧ s = ⟨#[]⟩ ∧ z = 6) := by
  have := hg (RR i) (QQ i) h.bits (h.tree i hi) (h.nodup i hi)
  cases hb : getB key (RR i) with
  | none =>
    rw [hb] at this
    cases this
    exact .inr ⟨rfl, rfl, rfl⟩
  | some v =>
    rw [hb] at this
    cases this
    exact .inl ⟨_, rfl, rfl, rfl⟩
theorem TreesV.val {k v : ByteArray} {i : Nat} (h : TreesV V n u0 RR QQ) (hi : i < 5) (hg : getB k (RR i) = some v) : v.size ≤ 80 := by
  obtain ⟨h1, h2⟩ := (h.tree i hi).srt
  exact (h2 _ ((get_mem h1).1 hg)).val
set_option maxHeartbeats 2000000 in
theorem tabget_any (H : PV w0 pp n c V R w) (hR : TabR pp tt tb R) (hn : 1 < n) (hT : TreesV V n u0 RR QQ) (hRu : RulesAt w0) (id : Int) (hid : -9223372036854775808 ≤ id ∧ id ≤ 9223372036854775807) :
    Calls Tryz.prog 30 #[.pointer (some ⟨tt, 0, none⟩), .int .i64 id] w fun e w' => e = .returned (gotV (getO id (RR 0))) ∧ PV w0 pp n c V R w' := by
  have H0 := H.push (opO zeroV)
  have hf0 := H.fresh
  have hlo := H.below.size
  obtain ⟨W0, hW0⟩ : ∃ W, w.alloc (.cells #[Value.int .i64 0, Value.int .i64 0, Value.int .i64 0, Value.int .i64 0, Value.int .i64 0, Value.int .i64 0, Value.int .i64 0, Value.bool false, Value.int .i64 0, Value.int .i64 0, Value.int .i64 0] 32) = W := ⟨_, rfl⟩
  have hW0' : w.alloc (opO zeroV) = W0 := hW0
  rw [hW0'] at H0
  obtain ⟨b, hb⟩ : ∃ b, w.heap.size = b := ⟨_, rfl⟩
  rw [hb] at H0 hf0 hlo
  obtain ⟨c0, _⟩ := tab_cells (H0.mem (x := (tt, tabO tb)) (by simp [hR.tab]))
  simp only at c0
  have HM := Lib.hid (tmade_yes c0)
  have HKY := Lib.hid (wayKey_any 0 ⟨id, 0, 0, 0, 0, 0, 0, false, 0, 0, 0⟩ W0 (by intro x hx; simp only [wayI] at hx; simp at hx; omega))
  have hky : wayS 0 (⟨id, 0, 0, 0, 0, 0, 0, false, 0, 0, 0⟩ : OpV) = keyS [id] := rfl
  rw [hky] at HKY
  have HZ := Lib.hid (And.intro H0 (And.intro hf0 (And.intro hlo (And.intro hR (And.intro hT (And.intro hRu hb))))))
  clear H H0 hf0 hlo hR hT hRu hW0' hid c0 hky hb
  go_enter Tryz.func30, Tryz.ntmps30
  go_wp2_with fail
  rw [HZ.out.2.2.2.2.2.2]
  refine HM.out.mono ?_
  rintro e _ ⟨rfl, rfl⟩
  obtain ⟨c0, _⟩ := tab_cells (HZ.out.1.mem (x := (tt, tabO tb)) (by simp [HZ.out.2.2.2.1.tab]))
  simp only at c0
  clear hW0
  go_wp2_with fail
  refine HKY.out.mono ?_
  rintro e w2 ⟨rfl, hb2⟩
  have H2 := HZ.out.1.on hb2
  clear c0 hb2
  obtain ⟨c0, _⟩ := tab_cells (H2.mem (x := (tt, tabO tb)) (by simp [HZ.out.2.2.2.1.tab]))
  simp only at c0
  have HG := Lib.hid (tget_ex H2 (tb := tb 0) (i := ((0 : Nat) : Int)) (List.mem_cons_of_mem _ (HZ.out.2.2.2.1.tree 0 (by omega))) hn (by omega) (keyS [id]))
  clear H2 HM HKY
  go_wp2_with fail
  refine HG.out.mono ?_
  rintro e w3 ⟨⟨s, z, rfl, hg⟩, H3⟩
  obtain ⟨H0, hf0, hlo, hR, hT, hRu, _⟩ := HZ.out
  rcases hT.get (i := 0) (by omega) hg with ⟨v, hv, rfl, rfl⟩ | ⟨hv, rfl, rfl⟩
  · have hsz := hT.val (i := 0) (by omega) hv
    have HRD := Lib.hid (tread_any (keyS [id]) s w3 (hRu.on H3.below) (by omega))
    have HE := Lib.hid (show getO id (RR 0) = rdO (keyS [id]) s by unfold getO; rw [hv])
    have HX := Lib.hid (And.intro H3 (And.intro hf0 hlo))
    clear H3 H0 hf0 hlo hR hT hRu hg hv hsz c0 HG
    go_wp2_with fail
    refine HRD.out.mono ?_
    rintro e w4 ⟨rfl, hb4⟩
    have H4 := HX.out.1.on hb4
    clear hb4
    cases ho : rdO (keyS [id]) s with
    | none =>
      obtain ⟨W5, hs5, H5⟩ := H4.storeO HX.out.2.1 HX.out.2.2 zeroV
      dsimp only [zeroV] at hs5
      have H5' := Lib.hid H5
      have HE2 := Lib.hid (HE.out.trans ho)
      clear H4 H5 ho
      unfold gotV
      go_wp2_with fail
      have q6 := cells11 (H5'.out.opAt List.mem_cons_self)
      refine bodyPost_ret (v := .tuple #[Value.agg #[Value.int .i64 zeroV.id, Value.int .i64 zeroV.proc, Value.int .i64 zeroV.obj, Value.int .i64 zeroV.kind, Value.int .i64 zeroV.meth, Value.int .i64 zeroV.arg, Value.int .i64 zeroV.sec, Value.bool zeroV.done, Value.int .i64 zeroV.res, Value.int .i64 zeroV.inv, Value.int .i64 zeroV.ret], .int .i64 6]) (by simp [results, Tryz.results30, go_sem, q6]) rfl ?_
      exact ⟨by rw [HE2.out]; rfl, H5'.out.drop⟩
    | some o =>
      obtain ⟨W5, hs5, H5⟩ := H4.storeO HX.out.2.1 HX.out.2.2 o
      have H5' := Lib.hid H5
      have HE2 := Lib.hid (HE.out.trans ho)
      clear H4 H5 ho
      unfold gotV
      go_wp2_with fail
      have q6 := cells11 (H5'.out.opAt List.mem_cons_self)
      refine bodyPost_ret (v := .tuple #[Value.agg #[Value.int .i64 o.id, Value.int .i64 o.proc, Value.int .i64 o.obj, Value.int .i64 o.kind, Value.int .i64 o.meth, Value.int .i64 o.arg, Value.int .i64 o.sec, Value.bool o.done, Value.int .i64 o.res, Value.int .i64 o.inv, Value.int .i64 o.ret], .int .i64 0]) (by simp [results, Tryz.results30, go_sem, q6]) rfl ?_
      exact ⟨by rw [HE2.out]; rfl, H5'.out.drop⟩
  · have HE := Lib.hid (show getO id (RR 0) = none by unfold getO; rw [hv])
    obtain ⟨W5, hs5, H5⟩ := H3.storeO hf0 hlo zeroV
    dsimp only [zeroV] at hs5
    have H5' := Lib.hid H5
    clear H3 H0 hf0 hlo hR hT hRu hg hv c0 HG H5
    go_wp2_with fail
    have q6 := cells11 (H5'.out.opAt List.mem_cons_self)
    refine bodyPost_ret (v := .tuple #[Value.agg #[Value.int .i64 zeroV.id, Value.int .i64 zeroV.proc, Value.int .i64 zeroV.obj, Value.int .i64 zeroV.kind, Value.int .i64 zeroV.meth, Value.int .i64 zeroV.arg, Value.int .i64 zeroV.sec, Value.bool zeroV.done, Value.int .i64 zeroV.res, Value.int .i64 zeroV.inv, Value.int .i64 zeroV.ret], .int .i64 6]) (by simp [results, Tryz.results30, go_sem, q6]) rfl ?_
    exact ⟨by rw [HE.out]; rfl, H5'.out.drop⟩
set_option maxHeartbeats 2000000 in
theorem keep_any {i : Nat} (H : PV w0 pp n c V R w) (hR : TabR pp tt tb R) (hn : 1 < n) (hT : TreesV V n u0 RR QQ) (hi : i < 5) (hc : c ≤ 600000) (hu : usedN (V 0) n + 12 ≤ n) (key rec : ByteArray) (hk : key.size ≠ 0 ∧ key.size ≤ 32) (hr : rec.size ≤ 80) :
    Calls Tryz.prog 77 #[.pointer (some ⟨tb i, 0, none⟩), .string key, .string rec] w fun e w' => e = .returned (.int .i64 0) ∧ ∃ V', ((getB key (RR i) = some rec ∧ V' = V) ∨ ∃ Q' N, TreeTo V V' n i (putB ⟨key, rec⟩ (RR i)) (QQ i) Q' N []) ∧ PV w0 pp n (c + 2000) V' R w' := by
  have HG := Lib.hid (tget_ex H (tb := tb i) (i := (i : Int)) (hR.tree i hi) hn (by omega) key)
  have HX := Lib.hid (And.intro hR (And.intro hT (And.intro hk (And.intro hr hu))))
  clear H hR hT hk hr hu
  go_enter Tryz.func77, Tryz.ntmps77
  go_wp2_with fail
  refine HG.out.mono ?_
  rintro e w3 ⟨⟨s, z, rfl, hg⟩, H3⟩
  obtain ⟨hR, hT, hk, hr, hu⟩ := HX.out
  have HP := Lib.hid (tput_any H3 (tb := tb i) (i := (i : Int)) (hR.tree i hi) hn (by omega) hc key rec)
  have hput : ∀ V' z, (key.size ≠ 0 → key.size ≤ 32 → rec.size ≤ 80 → PutSays V n i ⟨key, rec⟩ z V' ∧ PutEx V n i ⟨key, rec⟩ z V') → z = 0 ∧ ∃ Q' N, TreeTo V V' n i (putB ⟨key, rec⟩ (RR i)) (QQ i) Q' N [] := fun V' z h => by
    rcases (h hk.1 hk.2 hr).2 (RR i) (QQ i) hT.bits (hT.tree i hi) (hT.nodup i hi) with ⟨h1, h2⟩ | ⟨h1, h2, h3⟩
    · exact ⟨h1, h2⟩
    · omega
  have HPU := Lib.hid hput
  rcases hT.get hi hg with ⟨v, hv, rfl, rfl⟩ | ⟨hv, rfl, rfl⟩
  · have hte := texts_same s rec
    by_cases he : s = rec
    · rw [decide_eq_true he] at hte
      subst he
      have HF := Lib.hid (And.intro hv H3)
      clear hR hT hk hr hu H3 hg hv hput HP HG
      go_wp2
      go_returns
      exact ⟨rfl, V, .inl ⟨HF.out.1, rfl⟩, HF.out.2.mono (by omega)⟩
    · rw [decide_eq_false he] at hte
      clear hR hT hk hr hu H3 hg hv hput HG he
      go_wp2_with fail
      refine HP.out.mono ?_
      rintro e w4 ⟨V4, z4, rfl, hp4, H4⟩
      obtain ⟨rfl, h2⟩ := HPU.out V4 z4 hp4
      have HF := Lib.hid (And.intro h2 H4)
      clear h2 H4 hp4 HP
      go_wp2
      go_returns
      exact ⟨rfl, V4, .inr HF.out.1, HF.out.2⟩
  · clear hR hT hk hr hu H3 hg hv hput HG
    go_wp2_with fail
    refine HP.out.mono ?_
    rintro e w4 ⟨V4, z4, rfl, hp4, H4⟩
    obtain ⟨rfl, h2⟩ := HPU.out V4 z4 hp4
    have HF := Lib.hid (And.intro h2 H4)
    clear h2 H4 hp4 HP
    go_wp2
    go_returns
    exact ⟨rfl, V4, .inr HF.out.1, HF.out.2⟩
end
end Go.Proofs.YtcjfnfdinhbdlaaGreatDoor
namespace Go.Proofs.YtcjfnfdinhbdlaaGreatDoor
set_option maxRecDepth 100000
open Go.ChangeShapes Go.WideShapes Go.ChangeAt Go.RowKit Go.PlainAid Go.Deep
def idxTr (v i : Value) : Sem Value := Instr.index 67 v i
theorem index_tr (v i : Value) : Instr.index 67 v i = idxTr v i := rfl
theorem run_idxTr (x0 x1 x2 x3 x4 : Option Addr) (w : World) : ∀ (k : Nat) (x : Option Addr), [x0, x1, x2, x3, x4][k]? = some x → (idxTr (.agg #[.pointer x0, .pointer x1, .pointer x2, .pointer x3, .pointer x4]) (.int .i64 k)).run Tryz.prog w = .ok (.pointer x) w
  | 0, _, h => by cases h; kernel_rfl
  | 1, _, h => by cases h; kernel_rfl
  | 2, _, h => by cases h; kernel_rfl
  | 3, _, h => by cases h; kernel_rfl
  | 4, _, h => by cases h; kernel_rfl
  | k + 5, _, h => by simp at h
theorem run_tree (tb : Nat → Nat) (w : World) (k : Nat) (hk : k < 5) : (idxTr (.agg #[.pointer (some ⟨tb 0, 0, none⟩), .pointer (some ⟨tb 1, 0, none⟩), .pointer (some ⟨tb 2, 0, none⟩), .pointer (some ⟨tb 3, 0, none⟩), .pointer (some ⟨tb 4, 0, none⟩)]) (.int .i64 k)).run Tryz.prog w = .ok (.pointer (some ⟨tb k, 0, none⟩)) w :=
  run_idxTr _ _ _ _ _ w k _ (by
    match k, hk with
    | 0, _ => rfl
    | 1, _ => rfl
    | 2, _ => rfl
    | 3, _ => rfl
    | 4, _ => rfl
    | k + 5, hk => omega)
theorem getO_is {l : List OpV} {R0 : List Pr} (h : IsW 0 l R0) (hk : OpsK l) (id : Int) (hid : -9223372036854775808 ≤ id ∧ id ≤ 9223372036854775807) : getO id R0 = Hs.getL TL l id := by
  have hin : InI [id] := fun x hx => by rw [List.mem_singleton] at hx; rw [hx]; exact hid
  cases hg : Hs.getL TL l id with
  | some o =>
    obtain ⟨hm, he⟩ := Hs.get_some TL hg
    have he : o.id = id := he
    have hs : wayS 0 o = keyS [id] := by rw [← he]; rfl
    have hb := h.has hm
    rw [hs] at hb
    unfold getO
    rw [hb]
    show rdO (keyS [id]) (recS o) = some o
    unfold rdO
    rw [dec_enc (hk.chk o hm)]
    exact if_pos hs
  | none =>
    have hb : getB (keyS [id]) R0 = none := (get_not h.srt).2 fun p hp e => by
      obtain ⟨a, ha, rfl⟩ := (h.mem p).1 hp
      have h1 := key_inj _ _ (hk.inI ha 0) hin e
      have h2 : a.id = id := by
        have h1 : [a.id] = [id] := h1
        exact List.singleton_inj.1 h1
      exact Hs.get_none TL hg a ha h2
    unfold getO
    rw [hb]
attribute [local go_sem ↓ high] load_op store_o index_tr
section
variable {w0 w w' : World} {pp n c tt : Nat} {tb : Nat → Nat} {V : Int → ByteArray} {R : List (Nat × Obj)} {u0 : Nat} {RR : Nat → List Pr} {QQ : Nat → List Int} {l : List OpV}
end
end Go.Proofs.YtcjfnfdinhbdlaaGreatDoor
namespace Go.Proofs.YtcjfnfdinhbdlaaGreatDoor
set_option maxRecDepth 100000
open Go.ChangeShapes Go.WideShapes Go.ChangeAt Go.RowKit Go.PlainAid Go.Deep
def PutW (l : List OpV) (o : OpV) (k i : Nat) (R : List Pr) : Prop := (if i < k then IsW (i : Int) (Hs.inL TL l o) R else PreW (i : Int) l o R) ∧ R.length ≤ l.length + 1
attribute [local go_sem ↓ high] load_op store_o index_tr
section
variable {w0 w w' : World} {pp n c tt : Nat} {tb : Nat → Nat} {V : Int → ByteArray} {R : List (Nat × Obj)} {u0 : Nat} {RR : Nat → List Pr} {QQ : Nat → List Int} {l : List OpV}
theorem isw_len {i : Nat} {l : List OpV} {R : List Pr} (h : IsW (i : Int) l R) (hk : OpsK l) : R.length = l.length := by
  obtain ⟨L, e, _, hl⟩ := h.ops hk
  rw [e, List.length_map, hl]
theorem in_cap (l : List OpV) (o : OpV) : (Hs.inL TL l o).length ≤ l.length + 1 := by
  rw [Hs.in_len]
  have := Hs.out_len TL (l := l) (i := TL.id o)
  omega
theorem put_start_new {o : OpV} (hT : TabV V n u0 l RR QQ) (hc : checkZ o = 0) (hg : Hs.getL TL l o.id = none) : ∀ i, i < 5 → PutW l o 0 i (RR i) := fun i hi => by
  refine ⟨?_, by have := hT.len hi; omega⟩
  rw [if_neg (by omega)]
  exact pre_new (hT.is i hi) hT.ok hc (Hs.get_none TL hg)
theorem put_step {o : OpV} {k : Nat} {RR' : Nat → List Pr} {X : List Pr} (hk : OpsK l) (hc : checkZ o = 0) (hk5 : k < 5) (h : ∀ i, i < 5 → PutW l o k i (RR' i)) (hX : (getB (wayS (k : Int) o) (RR' k) = some (recW (k : Int) o) ∧ X = RR' k) ∨ X = putB (prW (k : Int) o) (RR' k)) : ∀ i, i < 5 → PutW l o (k + 1) i (updF RR' k X i) := fun i hi => by
  by_cases e : i = k
  · subst e
    rw [updF_same]
    have hp := (h i hi).1
    rw [if_neg (by omega)] at hp
    have hw : IsW (i : Int) (Hs.inL TL l o) X := by
      rcases hX with ⟨h1, rfl⟩ | rfl
      · exact hp.kept h1
      · exact hp.put
    refine ⟨?_, by rw [isw_len hw (hk.ins hc)]; exact in_cap l o⟩
    rw [if_pos (by omega)]
    exact hw
  · rw [updF_other _ _ e]
    obtain ⟨h1, h2⟩ := h i hi
    refine ⟨?_, h2⟩
    by_cases hik : i < k
    · rw [if_pos hik] at h1
      rw [if_pos (by omega)]
      exact h1
    · rw [if_neg hik] at h1
      rw [if_neg (by omega)]
      exact h1
theorem updF_self {α : Type} (f : Nat → α) (k : Nat) : updF f k (f k) = f := by
  funext j
  unfold updF
  split
  · next h => rw [h]
  · rfl
def TPutPost (w0 : World) (pp n c : Nat) (V : Int → ByteArray) (R : List (Nat × Obj)) (u0 : Nat) (l : List OpV) (o : OpV) (e : Ending) (w' : World) : Prop :=
  (checkZ o ≠ 0 ∧ e = .returned (.int .i64 (checkZ o)) ∧ PV w0 pp n (c + 12000) V R w') ∨
  (checkZ o = 0 ∧ e = .returned (.int .i64 0) ∧ ∃ V' RR' QQ', TabV V' n u0 (Hs.inL TL l o) RR' QQ' ∧ PV w0 pp n (c + 12000) V' R w')
set_option maxHeartbeats 8000000 in
theorem tabput_new (H : PV w0 pp n c V R w) (hR : TabR pp tt tb R) (hn : 1 < n) (hT : TabV V n u0 l RR QQ) (hRu : RulesAt w0) (hc : c ≤ 580000) (hroom : u0 + 10 * (l.length + 1) + 12 ≤ n) (o : OpV) (hg0 : Hs.getL TL l o.id = none) :
    Calls Tryz.prog 31 #[.pointer (some ⟨tt, 0, none⟩), Value.agg #[Value.int .i64 o.id, Value.int .i64 o.proc, Value.int .i64 o.obj, Value.int .i64 o.kind, Value.int .i64 o.meth, Value.int .i64 o.arg, Value.int .i64 o.sec, Value.bool o.done, Value.int .i64 o.res, Value.int .i64 o.inv, Value.int .i64 o.ret]] w (TPutPost w0 pp n c V R u0 l o) := by
  have HGN := Lib.hid hg0
  clear hg0
  have H1 := H.push (opO o)
  have hf0 := H.fresh
  have hlo := H.below.size
  obtain ⟨W0, hW0⟩ : ∃ W, w.alloc (.cells #[Value.int .i64 o.id, Value.int .i64 o.proc, Value.int .i64 o.obj, Value.int .i64 o.kind, Value.int .i64 o.meth, Value.int .i64 o.arg, Value.int .i64 o.sec, Value.bool o.done, Value.int .i64 o.res, Value.int .i64 o.inv, Value.int .i64 o.ret] 32) = W := ⟨_, rfl⟩
  have hW0' : w.alloc (opO o) = W0 := hW0
  rw [hW0'] at H1
  obtain ⟨b, hb⟩ : ∃ b, w.heap.size = b := ⟨_, rfl⟩
  rw [hb] at H1 hf0 hlo
  obtain ⟨c0, _⟩ := tab_cells (H1.mem (x := (tt, tabO tb)) (by simp [hR.tab]))
  simp only at c0
  have HM := Lib.hid (tmade_yes c0)
  have l0 := (H1.opAt (b := b) (x := o) List.mem_cons_self).load
  have HCK := Lib.hid (ocheck_any o W0 (hRu.on H1.below))
  have HX := Lib.hid (And.intro hR (And.intro hT (And.intro hRu (And.intro hb H1))))
  clear H H1 hf0 hR hT hRu hW0' hb c0
  go_enter Tryz.func31, Tryz.ntmps31
  go_wp2_with fail
  rw [HX.out.2.2.2.1]
  refine HM.out.mono ?_
  rintro e _ ⟨rfl, rfl⟩
  clear hW0
  go_wp2_with fail
  refine HCK.out.mono ?_
  rintro e w2 ⟨rfl, hb2⟩
  have H2 := HX.out.2.2.2.2.on hb2
  clear hb2 HCK l0 HM
  by_cases hck : checkZ o = 0
  · have HC := Lib.hid hck
    rw [hck]
    obtain ⟨hR, hT, hRu, _, _⟩ := HX.out
    obtain ⟨d0, _⟩ := (H2.opAt (b := b) (x := o) List.mem_cons_self).cell
    have hid := (fine_of hck).id
    have HG := Lib.hid (tabget_any H2 (hR.more fun y hy => List.mem_cons_of_mem _ hy) hn hT.trees hRu o.id (by omega))
    have he := getO_is (hT.is 0 (by omega)) hT.ok o.id (by omega)
    rw [he] at HG
    clear hR hT hRu H2 hid he hck
    go_wp2_with fail
    refine HG.out.mono ?_
    rintro e w3 ⟨rfl, H3⟩
    clear HG d0
    obtain ⟨b6, hb6⟩ : ∃ b6, w3.heap.size = b6 := ⟨_, rfl⟩
    have hg := HGN.out
    rw [hg]
    have hst := store_op_new w3 #[Value.int .i64 0, Value.int .i64 0, Value.int .i64 0, Value.int .i64 0, Value.int .i64 0, Value.int .i64 0, Value.int .i64 0, Value.bool false, Value.int .i64 0, Value.int .i64 0, Value.int .i64 0] rfl zeroV
    dsimp only [zeroV] at hst
    have H4 := H3.push (opO zeroV)
    rw [hb6] at H4
    obtain ⟨c0, c1, c2, c3, c4⟩ := tab_cells (H4.mem (x := (tt, tabO tb)) (by simp [HX.out.1.tab]))
    simp only at c0 c1 c2 c3 c4
    have HS1 : Hid (TreesV V n u0 RR QQ ∧ (∀ i, i < 5 → PutW l o 0 i (RR i)) ∧ PV w0 pp n (c + 1000 + 2000 * 0) V ((b6, opO zeroV) :: (b, opO o) :: R) (w3.alloc (opO zeroV))) := Lib.hid ⟨HX.out.2.1.trees, put_start_new HX.out.2.1 HC.out hg, H4.mono (by omega)⟩
    obtain ⟨V1, RR1, QQ1, h1⟩ : ∃ V1 RR1 QQ1, V1 = V ∧ RR1 = RR ∧ QQ1 = QQ := ⟨_, _, _, rfl, rfl, rfl⟩
    obtain ⟨rfl, rfl, rfl⟩ := h1
    unfold opO zeroV at c0 c1 c2 c3 c4
    have HB6 := Lib.hid hb6
    clear H4 H3 hg hb6
    unfold gotV
    go_wp2_with fail
    rw [HB6.out]
    clear c0 c1 c2 c3 c4 hst
    go_loopw [43] (fun iv wr => ∃ (k : Nat) (V' : Int → ByteArray) (RR' : Nat → List Pr) (QQ' : Nat → List Int), k ≤ 5 ∧ iv = .int .i64 (k : Int) ∧ Hid (TreesV V' n u0 RR' QQ' ∧ (∀ i, i < 5 → PutW l o k i (RR' i)) ∧ PV w0 pp n (c + 1000 + 2000 * k) V' ((b6, opO zeroV) :: (b, opO o) :: R) wr)) (fun iv _ => 5 - (intOf iv).toNat)
    case atStart => exact ⟨0, V1, RR1, QQ1, by omega, rfl, HS1⟩
    case round =>
      obtain ⟨k, V', RR', QQ', hk5, rfl, HS⟩ := hrel
      clear HS1
      by_cases hlt : k < 5
      · obtain ⟨hT', hL, HP⟩ := HS.out
        have hix := run_tree tb wr k hlt
        have HPd := HP.drew
        have hRw : ∀ W : World, ∀ Rx, PV w0 pp n (c + 1000 + 2000 * k) V' Rx W → RulesAt W := fun W Rx h => HX.out.2.2.1.on h.below
        have l0 := (HPd.opAt (b := b) (x := o) (by simp)).load
        have l1 := (HP.opAt (b := b) (x := o) (by simp)).load
        have hin := wayI_in HC.out (k : Int)
        have HKA := Lib.hid (wayKey_any (k : Int) o wr.drew hin)
        have HRA := Lib.hid (wayRecord_any (k : Int) o wr.drew (hRw _ _ HPd) HC.out)
        have f0 : decide ((k : Int) < 5) = true := decide_eq_true (by omega)
        have hwr : IntKind.i64.wrap ((k : Int) + 1) = (k : Int) + 1 := IntWalk.i64_in _ (by omega)
        have hkeep : ∀ W, PV w0 pp n (c + 1000 + 2000 * k) V' ((b6, opO zeroV) :: (b, opO o) :: R) W → Calls Tryz.prog 77 #[.pointer (some ⟨tb k, 0, none⟩), .string (wayS (k : Int) o), .string (recW (k : Int) o)] W fun e w' => e = .returned (.int .i64 0) ∧ ∃ V5, ((getB (wayS (k : Int) o) (RR' k) = some (recW (k : Int) o) ∧ V5 = V') ∨ ∃ Q' N, TreeTo V' V5 n (k : Int) (putB ⟨wayS (k : Int) o, recW (k : Int) o⟩ (RR' k)) (QQ' k) Q' N []) ∧ PV w0 pp n (c + 1000 + 2000 * k + 2000) V5 ((b6, opO zeroV) :: (b, opO o) :: R) w' := fun W h => by
          have hz := wayS_size (k : Int) o
          have hcnt := hT'.count (k := l.length + 1) fun i hi => (hL i hi).2
          exact keep_any h (HX.out.1.more fun y hy => List.mem_cons_of_mem _ (List.mem_cons_of_mem _ hy)) hn hT' hlt (by omega) (by omega) _ _ (by omega) (recW_size HC.out _)
        have HKP := Lib.hid hkeep
        have HIN := Lib.hid hin
        have HRW := Lib.hid hRw
        have HPD := Lib.hid HPd
        have HLT := Lib.hid hlt
        clear hT' hL HP HPd hRw hin hkeep hlt
        go_wp2_with fail
        go_region_law (first
          | (go_simp; (with_reducible refine HKA.out.mono ?_); rintro e w3 ⟨rfl, hb3⟩; have H3 := HPD.out.on hb3; have l3 := (H3.opAt (b := b) (x := o) (by simp)).load; have HRB := Lib.hid (wayRecord_any (k : Int) o w3 (HRW.out _ _ H3) HC.out); have H3' := Lib.hid H3; clear hb3 H3)
          | (go_simp; (with_reducible refine HRA.out.mono ?_); rintro e w3 ⟨rfl, hb3⟩; have H3 := HPD.out.on hb3; have l3 := (H3.opAt (b := b) (x := o) (by simp)).load; have HKB := Lib.hid (wayKey_any (k : Int) o w3 HIN.out); have H3' := Lib.hid H3; clear hb3 H3)
          | (go_simp; (with_reducible refine HRB.out.mono ?_); rintro e w4 ⟨rfl, hb4⟩; have HK4 := Lib.hid (HKP.out w4 (H3'.out.on hb4)); clear hb4)
          | (go_simp; (with_reducible refine HKB.out.mono ?_); rintro e w4 ⟨rfl, hb4⟩; have HK4 := Lib.hid (HKP.out w4 (H3'.out.on hb4)); clear hb4)
          | (go_simp; (with_reducible refine HK4.out.mono ?_); rintro e w5 ⟨rfl, V5, hV5, H5⟩; have HF5 := Lib.hid (And.intro hV5 H5); clear hV5 H5)
          | fail)
        all_goals
          have hnew : ∃ RR5 QQ5, TreesV V5 n u0 RR5 QQ5 ∧ (∀ i, i < 5 → PutW l o (k + 1) i (RR5 i)) := by
            rcases HF5.out.1 with ⟨h1, rfl⟩ | ⟨Q', N, h1⟩
            · refine ⟨RR', QQ', HS.out.1, fun i hi => ?_⟩
              have := put_step HX.out.2.1.ok HC.out HLT.out HS.out.2.1 (X := RR' k) (.inl ⟨h1, rfl⟩) i hi
              rwa [updF_self] at this
            · exact ⟨_, _, HS.out.1.to HLT.out h1, put_step HX.out.2.1.ok HC.out HLT.out HS.out.2.1 (.inr rfl)⟩
          obtain ⟨RR5, QQ5, hT5, hW5⟩ := hnew
          have HN5 := Lib.hid (And.intro hT5 (And.intro hW5 HF5.out.2))
          clear hT5 hW5
          go_wp2_with fail
          go_roundw
          case rel => exact ⟨k + 1, V5, RR5, QQ5, by have := HLT.out; omega, by go_num, Lib.hid ⟨HN5.out.1, HN5.out.2.1, HN5.out.2.2.mono (by omega)⟩⟩
          case measure => have := HLT.out; simp [intOf]; omega
      · have hk6 : k = 5 := by omega
        subst hk6
        have f0 : decide (((5 : Nat) : Int) < 5) = false := by decide
        have HF : Hid (∃ V' RR' QQ', TabV V' n u0 (Hs.inL TL l o) RR' QQ' ∧ PV w0 pp n (c + 12000) V' R wr) := Lib.hid ⟨V', RR', QQ', ⟨HS.out.1, fun i hi => by
          have := (HS.out.2.1 i hi).1
          rwa [if_pos hi] at this, HX.out.2.1.ok.ins HC.out⟩, HS.out.2.2.drop.drop.mono (by omega)⟩
        clear HS hlt hk5
        go_wp2
        go_returns
        exact .inr ⟨HC.out, rfl, HF.out⟩
  · have f1 : (checkZ o != 0) = true := by simpa using hck
    have HC := Lib.hid hck
    have H2' : Hid (PV w0 pp n (c + 12000) V R w2) := Lib.hid (H2.drop.mono (by omega))
    clear H2 hck
    go_wp2
    go_returns
    exact .inl ⟨HC.out, rfl, H2'.out⟩
end
end Go.Proofs.YtcjfnfdinhbdlaaGreatDoor
