/- Rows of operations that are put in order: in memory. Rows of operations that are put in order: insertion (slices.insertionSortCmpFunc). Rows of operations that are put in order: rows change places (slices.swapRangeCmpFunc, rotateCmpFunc). -/
import Derived.Test.YtppjmmdiglnkfaaQba
import Derived.Test.YtppjmmdiglnkfaaQaf
import Derived.Lib.QuietBelow
import Derived.Shelf.RegionOpenPlain
import Derived.Deep.RegionLaw
namespace Go.Proofs.Ytppjmmdiglnkfaa
set_option maxRecDepth 100000
open Go.ChangeShapes Go.WideShapes Go.ChangeAt Go.RowKit Go.PlainAid Go.Deep
namespace Cu
/-- A block that holds these operations, and then anything. -/
structure InRow (W : World) (g cap : Nat) (L : List OpV) : Prop where
  row : ∃ cur : Array Value, W.heap[g]? = some (.cells cur 43 (0, 0)) ∧ cur.size = cap * 11 ∧ RowO cur L
  le : L.length ≤ cap
theorem InRow.lt {W : World} {g cap : Nat} {L : List OpV} (h : InRow W g cap L) : g < W.heap.size := by
  obtain ⟨⟨cur, hg, _⟩, _⟩ := h
  exact heap_inO hg
theorem InRow.load {W : World} {g cap : Nat} {L : List OpV} (h : InRow W g cap L) {i : Nat} {o : OpV} (hi : L[i]? = some o) : (loadS 43 (.pointer (some ⟨g, i * 11, none⟩))).run Try.prog W = .ok (Value.agg #[Value.int .i64 o.id, Value.int .i64 o.proc, Value.int .i64 o.obj, Value.int .i64 o.kind, Value.int .i64 o.meth, Value.int .i64 o.arg, Value.int .i64 o.sec, Value.bool o.done, Value.int .i64 o.res, Value.int .i64 o.inv, Value.int .i64 o.ret]) W := by
  obtain ⟨⟨cur, hg, hs, hr⟩, hl⟩ := h
  exact load_cellsO fun j u hj => by
    rw [cell_of_row _ _ _ _ _ _ hg]
    exact hr.get (flatO_at L i o hi j u hj)
theorem InRow.keep {W W' : World} {g cap : Nat} {L : List OpV} (h : InRow W g cap L) (hk : W'.heap[g]? = W.heap[g]?) : InRow W' g cap L := by
  obtain ⟨⟨cur, hg, hs, hr⟩, hl⟩ := h
  exact ⟨⟨cur, hk.trans hg, hs, hr⟩, hl⟩
theorem InRow.on {W W' : World} {g cap : Nat} {L : List OpV} (h : InRow W g cap L) (hb : Below W.heap.size W W') : InRow W' g cap L := h.keep (hb.block g h.lt)
theorem rowO_set {cur cs : Array Value} {L : List OpV} (h : RowO cur L) {i : Nat} (hi : i < L.length) (o : OpV) (h1 : ∀ j, j < (cellsO o).length → cs[i * 11 + j]? = (cellsO o)[j]?) (h2 : ∀ k, k < i * 11 ∨ i * 11 + (cellsO o).length ≤ k → cs[k]? = cur[k]?) : RowO cs (L.set i o) := by
  refine RowO.of fun k u hk => ?_
  obtain ⟨x, t, j, rfl, ht, hj⟩ := flatO_get _ k u hk
  have hj11 : j < 11 := by rw [← cellsO_len x]; exact (List.getElem?_eq_some_iff.1 hj).1
  by_cases c : t = i
  · subst c
    rw [List.getElem?_set_self hi] at ht
    cases ht
    rw [h1 j (by rw [cellsO_len]; exact hj11)]
    exact hj
  · rw [List.getElem?_set_ne (Ne.symm c)] at ht
    rw [h2 (t * 11 + j) (by rw [cellsO_len]; omega)]
    exact h.get (flatO_at L t x ht j u hj)
theorem InRow.store {W : World} {g cap : Nat} {L : List OpV} (h : InRow W g cap L) {i : Nat} (hi : i < L.length) (o : OpV) :
    ∃ W', (storeS 43 (.pointer (some ⟨g, i * 11, none⟩)) (Value.agg #[Value.int .i64 o.id, Value.int .i64 o.proc, Value.int .i64 o.obj, Value.int .i64 o.kind, Value.int .i64 o.meth, Value.int .i64 o.arg, Value.int .i64 o.sec, Value.bool o.done, Value.int .i64 o.res, Value.int .i64 o.inv, Value.int .i64 o.ret])).run Try.prog W = .ok () W' ∧ InRow W' g cap (L.set i o) ∧ Keeps (fun k => k = g) W W' ∧ W'.heap.size = W.heap.size := by
  obtain ⟨⟨cur, hg, hs, hr⟩, hl⟩ := h
  have hlen := cellsO_len o
  have hb : i * 11 + (cellsO o).length ≤ cur.size := by rw [hlen, hs]; omega
  obtain ⟨cs, b1, b2, b3, b4⟩ := heap_setCells_same g 43 (cellsO o) (i * 11) W cur hg hb
  refine ⟨W.setCells g (i * 11) (cellsO o), ?_, ⟨⟨cs, b1, by rw [b2, hs], rowO_set hr hi o b3 b4⟩, by rw [List.length_set]; exact hl⟩, Keeps.setCells (own := fun k => k = g) (Keeps.refl _ _) (.inl rfl) _ _, size_setCells _ _ _ _⟩
  have hsz : (Try.prog.info? 43).map (·.size) = some 11 := by kernel_rfl
  exact storeMany_range (P := Try.prog) (cellsO o) (fun j hj => ⟨by
    rw [cell_of_row _ _ _ _ _ _ hg, Array.getElem?_eq_getElem (by omega)]
    rfl, frozen_of_row _ _ _ _ _ hg⟩) (by rw [hsz]; rfl) (fun v hv => flatO_one [o] v (by unfold flatO; simpa using hv))
/-- Two change places. -/
theorem InRow.swap {W : World} {g cap : Nat} {L : List OpV} (h : InRow W g cap L) {i j : Nat} {x y : OpV} (hx : L[i]? = some x) (hy : L[j]? = some y) :
    ∃ W1 W2, (storeS 43 (.pointer (some ⟨g, i * 11, none⟩)) (Value.agg #[Value.int .i64 y.id, Value.int .i64 y.proc, Value.int .i64 y.obj, Value.int .i64 y.kind, Value.int .i64 y.meth, Value.int .i64 y.arg, Value.int .i64 y.sec, Value.bool y.done, Value.int .i64 y.res, Value.int .i64 y.inv, Value.int .i64 y.ret])).run Try.prog W = .ok () W1 ∧ (storeS 43 (.pointer (some ⟨g, j * 11, none⟩)) (Value.agg #[Value.int .i64 x.id, Value.int .i64 x.proc, Value.int .i64 x.obj, Value.int .i64 x.kind, Value.int .i64 x.meth, Value.int .i64 x.arg, Value.int .i64 x.sec, Value.bool x.done, Value.int .i64 x.res, Value.int .i64 x.inv, Value.int .i64 x.ret])).run Try.prog W1 = .ok () W2 ∧ InRow W2 g cap (swp L i j) ∧ Keeps (fun k => k = g) W W2 := by
  obtain ⟨hi, _⟩ := List.getElem?_eq_some_iff.1 hx
  obtain ⟨hj, _⟩ := List.getElem?_eq_some_iff.1 hy
  obtain ⟨W1, s1, r1, k1, z1⟩ := h.store hi y
  obtain ⟨W2, s2, r2, k2, z2⟩ := r1.store (i := j) (by rw [List.length_set]; exact hj) x
  exact ⟨W1, W2, s1, s2, by rw [← swp_is hx hy]; exact r2, k1.on k2⟩
end Cu
end Go.Proofs.Ytppjmmdiglnkfaa
namespace Go.Proofs.Ytppjmmdiglnkfaa
set_option maxRecDepth 100000
open Go.ChangeShapes Go.WideShapes Go.ChangeAt Go.RowKit Go.PlainAid Go.Deep Go.Shelf Go.Sort
namespace Cu
attribute [local go_sem ↓ high] load_op store_o
/-- What a comparison says. -/
def ltO (cf : OpV → OpV → Int) (x y : OpV) : Bool := decide (cf x y < 0)
/-- A comparison handed in. -/
structure Cmp (f : Nat) (cf : OpV → OpV → Int) : Prop where
  enter : ∀ args w, (callFunc f args).run Try.prog w = .ok (.enter f args) w
  calls : ∀ (x y : OpV) (w : World), Calls Try.prog f #[Value.agg #[Value.int .i64 x.id, Value.int .i64 x.proc, Value.int .i64 x.obj, Value.int .i64 x.kind, Value.int .i64 x.meth, Value.int .i64 x.arg, Value.int .i64 x.sec, Value.bool x.done, Value.int .i64 x.res, Value.int .i64 x.inv, Value.int .i64 x.ret], Value.agg #[Value.int .i64 y.id, Value.int .i64 y.proc, Value.int .i64 y.obj, Value.int .i64 y.kind, Value.int .i64 y.meth, Value.int .i64 y.arg, Value.int .i64 y.sec, Value.bool y.done, Value.int .i64 y.res, Value.int .i64 y.inv, Value.int .i64 y.ret]] w fun e w' => e = .returned (.int .i64 (cf x y)) ∧ Below w.heap.size w w'
  ord : Ord3 (ltO cf)
/-- What is left: the row anew. -/
def RowAt (g cap n : Nat) (w : World) (K : List OpV → Prop) (W : World) : Prop := ∃ L, InRow W g cap L ∧ L.length = n ∧ K L ∧ Keeps (fun k => k = g) w W
def RowPost (g cap n : Nat) (w : World) (K : List OpV → Prop) (e : Ending) (W : World) : Prop := e = .returned (.tuple #[]) ∧ RowAt g cap n w K W
theorem below_drew (w : World) : Below w.heap.size w w.drew := ⟨rfl, rfl, rfl, Nat.le_refl _, fun _ _ => rfl⟩
theorem mixed : Try.prog.follows .mixedOrders = true := by kernel_rfl
theorem Keeps.regrown {own : Nat → Prop} {w W : World} (h : Keeps own w W) (d : Nat) (os : Array Obj) : Keeps own w (grow (redrawn W d) os) := h.on (Keeps.of_below (below_regrown W d os))
set_option maxHeartbeats 4000000 in
theorem insertion_any {f : Nat} {cf : OpV → OpV → Int} (hf : Cmp f cf) {g cap a b n : Nat} {L : List OpV} {w : World} (h : InRow w g cap L) (hn : L.length = n) (hl : n ≤ 1048576) (hab : a ≤ b) (hb : b ≤ n) :
    Calls Try.prog 98 #[.slice (some ⟨g, 0, none⟩) n cap, .int .i64 a, .int .i64 b, .func (.func f) #[] #[]] w (RowPost g cap n w fun L' => Mv L L' a b ∧ Sr (ltO cf) L' a b) := by
  have eg := hf.enter
  have HF := Lib.hid hf
  have HS := Lib.hid (show RowAt g cap n w (fun L' => Mv L L' a b ∧ Sr (ltO cf) L' a (a + 1)) w from ⟨L, h, hn, ⟨Mv.refl _ _ _, Sr.one _ _ _ (Nat.le_refl _)⟩, Keeps.refl _ _⟩)
  have w1 : IntKind.i64.wrap ((a : Int) + 1) = (a : Int) + 1 := IntWalk.i64_in _ (by omega)
  clear hf h hn
  have mixed := mixed
  go_enter Try.func98, Try.ntmps98
  go_wp2_with fail
  clear w1
  go_loopw [8] (fun s8 wr => ∃ i : Nat, s8 = .int .i64 i ∧ a < i ∧ i ≤ b + 1 ∧ Hid (RowAt g cap n w (fun L' => Mv L L' a b ∧ Sr (ltO cf) L' a i) wr)) (fun s8 _ => b + 1 - (intOf s8).toNat)
  case atStart => exact ⟨a + 1, by simp, by omega, by omega, HS⟩
  case round =>
    clear HS
    obtain ⟨i, rfl, hai, hib, HI⟩ := hrel
    have hp8 : IntKind.i64.wrap ((i : Int) + 1) = (i : Int) + 1 := IntWalk.i64_in _ (by omega)
    by_cases hlt : i < b
    · have hltz : (i : Int) < (b : Int) := by omega
      obtain ⟨L1, hr1, hn1, ⟨hm1, hs1⟩, hk1⟩ := HI.out
      have HS1 := Lib.hid (show RowAt g cap n w (fun L' => Mv L L' a b ∧ Ins (ltO cf) L1 L' a i i) wr from ⟨L1, hr1, hn1, ⟨hm1, Ins.start hs1⟩, hk1⟩)
      have HM1 := Lib.hid hm1
      clear HI hr1 hn1 hm1 hs1 hk1
      go_wp2_with fail
      go_loopw [9] (fun s9 wr2 => ∃ j : Nat, s9 = .int .i64 j ∧ a ≤ j ∧ j ≤ i ∧ Hid (RowAt g cap n w (fun L' => Mv L L' a b ∧ Ins (ltO cf) L1 L' a i j) wr2)) (fun s9 _ => (intOf s9).toNat)
      case atStart => exact ⟨i, rfl, by omega, Nat.le_refl _, HS1⟩
      case round =>
        clear HS1
        obtain ⟨j, rfl, haj, hji, HJ⟩ := hrel
        obtain ⟨L2, hr2, hn2, ⟨hm2, hi2⟩, hk2⟩ := HJ.out
        clear HJ
        by_cases hja : a < j
        · obtain ⟨jp, rfl⟩ : ∃ jp, j = jp + 1 := ⟨j - 1, by omega⟩
          have hwp : IntKind.i64.wrap (jp : Int) = (jp : Int) := IntWalk.i64_in _ (by omega)
          have jz : (jp : Int) + 1 < (n : Int) := by omega
          have jz1 : (jp : Int) < (n : Int) := by omega
          have hjaz' : (a : Int) < (jp : Int) + 1 := by omega
          have p0 : (0 : Int) ≤ (jp : Int) + 1 := by omega
          have e0 : ((jp : Int) + 1).toNat = jp + 1 := by omega
          obtain ⟨x, hx⟩ : ∃ x, L2[jp + 1]? = some x := ⟨_, List.getElem?_eq_getElem (by omega)⟩
          obtain ⟨y, hy⟩ : ∃ y, L2[jp]? = some y := ⟨_, List.getElem?_eq_getElem (by omega)⟩
          have HR := Lib.hid hr2
          have HP := Lib.hid (And.intro hn2 (And.intro hm2 (And.intro hi2 hk2)))
          clear hr2 hn2 hm2 hi2 hk2
          have lx := fun d os => (HR.out.on (below_regrown wr d os)).load hx
          have ly := fun d os => (HR.out.on (below_regrown wr d os)).load hy
          obtain ⟨cz, hcz⟩ : ∃ z, cf x y = z := ⟨_, rfl⟩
          have k1 : ∀ d os, Calls Try.prog f #[Value.agg #[Value.int .i64 x.id, Value.int .i64 x.proc, Value.int .i64 x.obj, Value.int .i64 x.kind, Value.int .i64 x.meth, Value.int .i64 x.arg, Value.int .i64 x.sec, Value.bool x.done, Value.int .i64 x.res, Value.int .i64 x.inv, Value.int .i64 x.ret], Value.agg #[Value.int .i64 y.id, Value.int .i64 y.proc, Value.int .i64 y.obj, Value.int .i64 y.kind, Value.int .i64 y.meth, Value.int .i64 y.arg, Value.int .i64 y.sec, Value.bool y.done, Value.int .i64 y.res, Value.int .i64 y.inv, Value.int .i64 y.ret]] (grow (redrawn wr d) os) fun e w'' => e = .returned (.int .i64 cz) ∧ ∃ p : Regrown, w'' = grow (redrawn wr p.d) p.os := fun d os => Calls.regrown_of (by rw [← hcz]; exact HF.out.calls x y _)
          have K1 := Lib.hid k1
          have HCZ := Lib.hid (show decide (cz < 0) = ltO cf x y by unfold ltO; rw [hcz])
          have HX := Lib.hid hx
          have HY := Lib.hid hy
          clear k1 hcz hx hy
          by_cases hc : cz < 0
          · go_wp2_with fail
            refine wp_region_quiet_below (by kernel_rfl) (by kernel_rfl) ?_
            repeat (go_big_quiet_step (first | (with_reducible exact K1.out _ _)))
            refine wpQuiet_nil ?_
            intro _ hw'
            obtain ⟨⟨dq, osq⟩, hw''⟩ := hw'
            subst hw''
            have hr3 := HR.out.on (below_regrown wr dq osq)
            have hk3 := Keeps.regrown HP.out.2.2.2 dq osq
            obtain ⟨w3, hw3⟩ : ∃ W, grow (redrawn wr dq) osq = W := ⟨_, rfl⟩
            rw [hw3] at hr3 hk3 ⊢
            have HR3 := Lib.hid hr3
            have HK3 := Lib.hid hk3
            clear lx ly hw3 hr3 hk3
            obtain ⟨W1, W2, s1, s2, r2, k2⟩ := InRow.swap (HR3.out.on (below_drew _)) HX.out HY.out
            have lx2 := (HR3.out.on (below_drew _)).load HX.out
            have ly2 := (HR3.out.on (below_drew _)).load HY.out
            have R2 := Lib.hid r2
            have K2 := Lib.hid k2
            clear r2 k2
            go_wp2_with fail
            go_big_region_o
            all_goals go_wp2_with fail
            go_roundw
            case measure => simp [intOf] <;> omega
            case rel =>
              obtain ⟨p1, p2, p3, _⟩ := HP.out
              refine ⟨jp, by first | rfl | simp, by omega, by omega, Lib.hid ⟨_, R2.out, by rw [swp_len]; exact p1, ⟨p2.trans (Mv.swp (by omega) (by omega) (by omega) (by omega) (by omega)), ?_⟩, (HK3.out.drew).on K2.out⟩⟩
              have := p3.step HF.out.ord (by omega) (by omega) (by omega) HX.out HY.out (by rw [← HCZ.out]; exact decide_eq_true hc)
              exact this
          · go_wp2_with fail
            refine wp_region_quiet_below (by kernel_rfl) (by kernel_rfl) ?_
            repeat (go_big_quiet_step (first | (with_reducible exact K1.out _ _)))
            refine wpQuiet_nil ?_
            intro _ hw'
            obtain ⟨⟨dq, osq⟩, hw''⟩ := hw'
            subst hw''
            go_wp2_with fail
            go_roundw
            case measure => simp [intOf] <;> omega
            case rel =>
              obtain ⟨p1, p2, p3, p4⟩ := HP.out
              exact ⟨i + 1, by simp, by omega, by omega, Lib.hid ⟨L2, HR.out.on (below_regrown wr dq osq), p1, ⟨p2, (p3.done HF.out.ord (by omega) hji (.inr ⟨x, y, HX.out, HY.out, by rw [← HCZ.out]; exact decide_eq_false (by omega)⟩)).2⟩, Keeps.regrown p4 dq osq⟩⟩
        · have hjaz : decide ((j : Int) > (a : Int)) = false := decide_eq_false (by omega)
          have hjaz' : ¬ (a : Int) < (j : Int) := by omega
          have HR := Lib.hid (show RowAt g cap n w (fun L' => Mv L L' a b ∧ Sr (ltO cf) L' a (i + 1)) wr.drew from ⟨L2, hr2.on (below_drew _), hn2, ⟨hm2, (hi2.done HF.out.ord haj hji (.inl (by omega))).2⟩, hk2.drew⟩)
          clear hr2 hn2 hm2 hi2 hk2
          go_wp2_with fail
          go_big_region_o
          all_goals go_wp2_with fail
          go_roundw
          case measure => simp [intOf] <;> omega
          case rel => exact ⟨i + 1, by simp, by omega, by omega, HR⟩
    · have hltz : ¬ (i : Int) < (b : Int) := by omega
      obtain ⟨L1, hr1, hn1, ⟨hm1, hs1⟩, hk1⟩ := HI.out
      have HE := Lib.hid (show RowAt g cap n w (fun L' => Mv L L' a b ∧ Sr (ltO cf) L' a b) wr from ⟨L1, hr1, hn1, ⟨hm1, hs1.less (Nat.le_refl _) (by omega)⟩, hk1⟩)
      clear HI hr1 hn1 hm1 hs1 hk1
      go_wp2_with fail
      go_returns
      exact ⟨rfl, HE.out⟩
end Cu
end Go.Proofs.Ytppjmmdiglnkfaa
namespace Go.Proofs.Ytppjmmdiglnkfaa
set_option maxRecDepth 100000
open Go.ChangeShapes Go.WideShapes Go.ChangeAt Go.RowKit Go.PlainAid Go.Deep Go.Shelf Go.Sort
namespace Cu
attribute [local go_sem ↓ high] load_op store_o
set_option maxHeartbeats 4000000 in
/-- Two rows of m change places. -/
theorem swapRange_any (cl : Value) {g cap a b m n : Nat} {L : List OpV} {w : World} (h : InRow w g cap L) (hn : L.length = n) (hl : n ≤ 1048576) (hab : a + m ≤ b) (hb : b + m ≤ n) :
    Calls Try.prog 131 #[.slice (some ⟨g, 0, none⟩) n cap, .int .i64 a, .int .i64 b, .int .i64 m, cl] w (RowPost g cap n w fun L' => L'.Perm L ∧ Sw L L' a b m) := by
  have HS := Lib.hid (show RowAt g cap n w (fun L' => L'.Perm L ∧ Sw L L' a b 0) w from ⟨L, h, hn, ⟨List.Perm.refl _, Sw.nil _ _ _⟩, Keeps.refl _ _⟩)
  have HN := Lib.hid hn
  clear h hn
  have mixed := mixed
  go_enter Try.func131, Try.ntmps131
  go_wp2_with fail
  go_loopw [10] (fun s10 wr => ∃ i : Nat, s10 = .int .i64 i ∧ i ≤ m ∧ Hid (RowAt g cap n w (fun L' => L'.Perm L ∧ Sw L L' a b i) wr)) (fun s10 _ => m - (intOf s10).toNat)
  case atStart => exact ⟨0, rfl, Nat.zero_le _, HS⟩
  case round =>
    clear HS
    obtain ⟨i, rfl, him, HI⟩ := hrel
    by_cases hlt : i < m
    · have hltz : (i : Int) < (m : Int) := by omega
      have w1 : IntKind.i64.wrap ((i : Int) + 1) = (i : Int) + 1 := IntWalk.i64_in _ (by omega)
      have w2 : IntKind.i64.wrap ((a : Int) + (i : Int)) = (a : Int) + (i : Int) := IntWalk.i64_in _ (by omega)
      have w3 : IntKind.i64.wrap ((b : Int) + (i : Int)) = (b : Int) + (i : Int) := IntWalk.i64_in _ (by omega)
      have a1 : (a : Int) + (i : Int) < (n : Int) := by omega
      have a2 : (b : Int) + (i : Int) < (n : Int) := by omega
      have a3 : (0 : Int) ≤ (a : Int) + (i : Int) := by omega
      have a4 : (0 : Int) ≤ (b : Int) + (i : Int) := by omega
      have a5 : ((a : Int) + (i : Int)).toNat = a + i := by omega
      have a6 : ((b : Int) + (i : Int)).toNat = b + i := by omega
      obtain ⟨L1, hr1, hn1, ⟨hp1, hs1⟩, hk1⟩ := HI.out
      obtain ⟨x, hx⟩ : ∃ x, L1[a + i]? = some x := ⟨_, List.getElem?_eq_getElem (by omega)⟩
      obtain ⟨y, hy⟩ : ∃ y, L1[b + i]? = some y := ⟨_, List.getElem?_eq_getElem (by omega)⟩
      have HR3 := Lib.hid hr1
      have HP := Lib.hid (And.intro hn1 (And.intro hp1 (And.intro hs1 hk1)))
      have HX := Lib.hid hx
      have HY := Lib.hid hy
      clear HI hr1 hn1 hp1 hs1 hk1 hx hy
      obtain ⟨W1, W2, s1, s2, r2, k2⟩ := InRow.swap (HR3.out.on (below_drew _)) HX.out HY.out
      have lx2 := (HR3.out.on (below_drew _)).load HX.out
      have ly2 := (HR3.out.on (below_drew _)).load HY.out
      have R2 := Lib.hid r2
      have K2 := Lib.hid k2
      clear r2 k2
      go_wp2_with fail
      go_big_region_o
      all_goals go_wp2_with fail
      go_roundw
      case measure => simp [intOf] <;> omega
      case rel =>
        obtain ⟨p1, p2, p3, p4⟩ := HP.out
        have := HN.out
        exact ⟨i + 1, by simp, by omega, Lib.hid ⟨_, R2.out, by rw [swp_len]; exact p1, ⟨(swp_perm _ _ _).trans p2, p3.step (by omega) (by omega)⟩, p4.drew.on K2.out⟩⟩
    · obtain rfl : i = m := by omega
      have hltz : ¬ (i : Int) < (i : Int) := by omega
      go_wp2_with fail
      go_returns
      exact ⟨rfl, HI.out⟩
set_option maxHeartbeats 4000000 in
/-- Two rows beside each other change places. -/
theorem rotate_any (cl : Value) {g cap a m b n : Nat} {L : List OpV} {w : World} (h : InRow w g cap L) (hn : L.length = n) (hl : n ≤ 1048576) (ham : a < m) (hmb : m < b) (hb : b ≤ n) :
    Calls Try.prog 119 #[.slice (some ⟨g, 0, none⟩) n cap, .int .i64 a, .int .i64 m, .int .i64 b, cl] w (RowPost g cap n w fun L' => Rot L L' a m b) := by
  have e1 : m - (m - a) = a := by omega
  have e2 : m + (b - m) = b := by omega
  have HS := Lib.hid (show RowAt g cap n w (fun L' => Mv L L' a b ∧ ∀ k, rot L' (m - (m - a)) m (m + (b - m)) k = rot L a m b k) w from ⟨L, h, hn, ⟨Mv.refl _ _ _, fun k => by rw [e1, e2]⟩, Keeps.refl _ _⟩)
  have w1 : IntKind.i64.wrap ((m : Int) - (a : Int)) = ((m - a : Nat) : Int) := by rw [IntWalk.i64_in _ (by omega)]; omega
  have w2 : IntKind.i64.wrap ((b : Int) - (m : Int)) = ((b - m : Nat) : Int) := by rw [IntWalk.i64_in _ (by omega)]; omega
  clear h e1 e2
  have HN := Lib.hid hn
  clear hn
  have mixed := mixed
  go_enter Try.func119, Try.ntmps119
  go_wp2_with fail
  clear w1 w2
  go_loopw [10, 11] (fun s10 s11 wr => ∃ i j : Nat, s10 = .int .i64 i ∧ s11 = .int .i64 j ∧ 0 < i ∧ 0 < j ∧ i ≤ m - a ∧ j ≤ b - m ∧ Hid (RowAt g cap n w (fun L' => Mv L L' a b ∧ ∀ k, rot L' (m - i) m (m + j) k = rot L a m b k) wr)) (fun s10 s11 _ => (intOf s10).toNat + (intOf s11).toNat)
  case atStart => exact ⟨m - a, b - m, by simp, by simp, by omega, by omega, Nat.le_refl _, Nat.le_refl _, HS⟩
  case round =>
    clear HS
    obtain ⟨i, j, rfl, rfl, hi, hj, him, hjb, HI⟩ := hrel
    have w3 : IntKind.i64.wrap ((m : Int) - (i : Int)) = ((m - i : Nat) : Int) := by rw [IntWalk.i64_in _ (by omega)]; omega
    obtain ⟨L1, hr1, hn1, ⟨hm1, hs1⟩, hk1⟩ := HI.out
    have HP := Lib.hid (And.intro hm1 (And.intro hs1 hk1))
    clear HI hm1 hs1 hk1
    by_cases he : i = j
    · subst he
      have q1 : ((i : Int) != (i : Int)) = false := by simp
      have HC := Lib.hid (swapRange_any cl (a := m - i) (b := m) (m := i) hr1 hn1 hl (by omega) (by omega))
      clear hr1 hn1
      go_wp2_with fail
      refine HC.out.mono ?_
      rintro e w4 ⟨rfl, L4, r4, n4, ⟨p4, s4⟩, k4⟩
      have HE := Lib.hid (show RowAt g cap n w (fun L' => Rot L L' a m b) w4 from ⟨L4, r4, n4, ⟨HP.out.1.trans (s4.mv p4 (by omega) (by omega) (by omega)), fun k => by rw [rot_last (by omega) s4 k, HP.out.2.1 k]⟩, HP.out.2.2.on k4⟩)
      clear r4 n4 p4 s4 k4
      go_wp2_with fail
      go_returns
      exact ⟨rfl, HE.out⟩
    · have q1 : ((i : Int) != (j : Int)) = true := by simp; omega
      by_cases hij : j < i
      · have q2 : (j : Int) < (i : Int) := by omega
        have w4 : IntKind.i64.wrap ((i : Int) - (j : Int)) = ((i - j : Nat) : Int) := by rw [IntWalk.i64_in _ (by omega)]; omega
        have HC := Lib.hid (swapRange_any cl (a := m - i) (b := m) (m := j) hr1 hn1 hl (by omega) (by omega))
        clear hr1 hn1
        go_wp2_with fail
        refine HC.out.mono ?_
        rintro e w4 ⟨rfl, L4, r4, n4, ⟨p4, s4⟩, k4⟩
        have HE := Lib.hid (show RowAt g cap n w (fun L' => Mv L L' a b ∧ ∀ k, rot L' (m - (i - j)) m (m + j) k = rot L a m b k) w4 from ⟨L4, r4, n4, ⟨HP.out.1.trans (s4.mv p4 (by omega) (by omega) (by omega)), fun k => by rw [rot_left hj hij (by omega) s4 k, HP.out.2.1 k]⟩, HP.out.2.2.on k4⟩)
        clear r4 n4 p4 s4 k4
        go_wp2_with fail
        go_roundw
        case measure => simp [intOf] <;> omega
        case rel => exact ⟨i - j, j, by simp, rfl, by omega, hj, by omega, hjb, HE⟩
      · have q2 : ¬ (j : Int) < (i : Int) := by omega
        have w4 : IntKind.i64.wrap ((j : Int) - (i : Int)) = ((j - i : Nat) : Int) := by rw [IntWalk.i64_in _ (by omega)]; omega
        have w5 : IntKind.i64.wrap ((m : Int) + (j : Int)) = (m : Int) + (j : Int) := IntWalk.i64_in _ (by omega)
        have w6 : IntKind.i64.wrap ((m : Int) + (j : Int) - (i : Int)) = ((m + j - i : Nat) : Int) := by rw [IntWalk.i64_in _ (by omega)]; omega
        have HC := Lib.hid (swapRange_any cl (a := m - i) (b := m + j - i) (m := i) hr1 hn1 hl (by omega) (by omega))
        clear hr1 hn1
        go_wp2_with fail
        refine HC.out.mono ?_
        rintro e w4 ⟨rfl, L4, r4, n4, ⟨p4, s4⟩, k4⟩
        have HE := Lib.hid (show RowAt g cap n w (fun L' => Mv L L' a b ∧ ∀ k, rot L' (m - i) m (m + (j - i)) k = rot L a m b k) w4 from ⟨L4, r4, n4, ⟨HP.out.1.trans (s4.mv p4 (by omega) (by omega) (by omega)), fun k => by rw [rot_right hi (by omega) (by omega) s4 k, HP.out.2.1 k]⟩, HP.out.2.2.on k4⟩)
        clear r4 n4 p4 s4 k4
        go_wp2_with fail
        go_roundw
        case measure => simp [intOf] <;> omega
        case rel => exact ⟨i, j - i, rfl, by simp, hi, by omega, him, by omega, HE⟩
end Cu
end Go.Proofs.Ytppjmmdiglnkfaa
