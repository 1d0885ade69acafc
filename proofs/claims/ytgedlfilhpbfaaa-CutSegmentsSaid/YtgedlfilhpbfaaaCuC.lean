/- Rows of operations that are put in order: insertion (slices.insertionSortCmpFunc). -/
import Derived.Test.YtgedlfilhpbfaaaCuB
import Derived.Lib.QuietBelow
import Derived.Shelf.RegionOpenPlain
import Derived.Deep.RegionLaw
namespace Go.Proofs.Ytgedlfilhpbfaaa
set_option maxRecDepth 100000
open Go.ChangeShapes Go.WideShapes Go.ChangeAt Go.RowKit Go.PlainAid Go.Deep Go.Shelf Go.Sort
namespace Cu
attribute [local go_sem ↓ high] load_op store_o
/-- What a comparison says. -/
def ltO (cf : OpV → OpV → Int) (x y : OpV) : Bool := decide (cf x y < 0)
/-- A comparison handed in. -/
structure Cmp (f : Nat) (cf : OpV → OpV → Int) : Prop where
  enter : ∀ args w, (callFunc f args).run Try.prog w = .ok (.enter f args) w
  calls : ∀ (x y : OpV) (w : World), Calls Try.prog f #[Value.agg #[Value.int .i64 x.id, Value.int .i64 x.proc, Value.int .i64 x.obj, Value.int .i64 x.kind, Value.int .i64 x.meth, Value.int .i64 x.arg, Value.int .i64 x.sec, Value.bool x.done, Value.int .i64 x.res, Value.int .i64 x.inv, Value.int .i64 x.ret], Value.agg #[Value.int .i64 y.id, Value.int .i64 y.proc, Value.int .i64 y.obj, Value.int .i64 y.kind, Value.int .i64 y.meth, Value.int .i64 y.arg, Value.int .i64 y.sec, Value.bool y.done, Value.int .i64 y.res, Value.int .i64 y.inv, Value.int .i64 y.ret]] w fun e w' => e = .returned (.int .i64 (cf x y)) ∧ Below w.heap.size w w'
  ord : Ord3 (ltO cf)
/-- What is left: the row anew. -/
def RowAt (g cap n : Nat) (w : World) (K : List OpV → Prop) (W : World) : Prop := ∃ L, InRow W g cap L ∧ L.length = n ∧ K L ∧ Keeps (fun k => k = g) w W
def RowPost (g cap n : Nat) (w : World) (K : List OpV → Prop) (e : Ending) (W : World) : Prop := e = .returned (.tuple #[]) ∧ RowAt g cap n w K W
theorem below_drew (w : World) : Below w.heap.size w w.drew := ⟨rfl, rfl, rfl, Nat.le_refl _, fun _ _ => rfl⟩
theorem mixed : Try.prog.follows .mixedOrders = true := by kernel_rfl
theorem Keeps.regrown {own : Nat → Prop} {w W : World} (h : Keeps own w W) (d : Nat) (os : Array Obj) : Keeps own w (grow (redrawn W d) os) := h.on (Keeps.of_below (below_regrown W d os))
set_option maxHeartbeats 4000000 in
theorem insertion_any {f : Nat} {cf : OpV → OpV → Int} (hf : Cmp f cf) {g cap a b n : Nat} {L : List OpV} {w : World} (h : InRow w g cap L) (hn : L.length = n) (hl : n ≤ 1048576) (hab : a ≤ b) (hb : b ≤ n) :
    Calls Try.prog 36 #[.slice (some ⟨g, 0, none⟩) n cap, .int .i64 a, .int .i64 b, .func (.func f) #[] #[]] w (RowPost g cap n w fun L' => Mv L L' a b ∧ Sr (ltO cf) L' a b) := by
  have eg := hf.enter
  have HF := Lib.hid hf
  have HS := Lib.hid (show RowAt g cap n w (fun L' => Mv L L' a b ∧ Sr (ltO cf) L' a (a + 1)) w from ⟨L, h, hn, ⟨Mv.refl _ _ _, Sr.one _ _ _ (Nat.le_refl _)⟩, Keeps.refl _ _⟩)
  have w1 : IntKind.i64.wrap ((a : Int) + 1) = (a : Int) + 1 := IntWalk.i64_in _ (by omega)
  clear hf h hn
  have mixed := mixed
  go_enter Try.func36, Try.ntmps36
  go_wp2_with fail
  clear w1
  go_loopw [8] (fun s8 wr => ∃ i : Nat, s8 = .int .i64 i ∧ a < i ∧ i ≤ b + 1 ∧ Hid (RowAt g cap n w (fun L' => Mv L L' a b ∧ Sr (ltO cf) L' a i) wr)) (fun s8 _ => b + 1 - (intOf s8).toNat)
  case atStart => exact ⟨a + 1, by simp, by omega, by omega, HS⟩
  case round =>
    clear HS
    obtain ⟨i, rfl, hai, hib, HI⟩ := hrel
    have hp8 : IntKind.i64.wrap ((i : Int) + 1) = (i : Int) + 1 := IntWalk.i64_in _ (by omega)
    by_cases hlt : i < b
    · have hltz : (i : Int) < (b : Int) := by omega
      obtain ⟨L1, hr1, hn1, ⟨hm1, hs1⟩, hk1⟩ := HI.out
      have HS1 := Lib.hid (show RowAt g cap n w (fun L' => Mv L L' a b ∧ Ins (ltO cf) L1 L' a i i) wr from ⟨L1, hr1, hn1, ⟨hm1, Ins.start hs1⟩, hk1⟩)
      have HM1 := Lib.hid hm1
      clear HI hr1 hn1 hm1 hs1 hk1
      go_wp2_with fail
      go_loopw [9] (fun s9 wr2 => ∃ j : Nat, s9 = .int .i64 j ∧ a ≤ j ∧ j ≤ i ∧ Hid (RowAt g cap n w (fun L' => Mv L L' a b ∧ Ins (ltO cf) L1 L' a i j) wr2)) (fun s9 _ => (intOf s9).toNat)
      case atStart => exact ⟨i, rfl, by omega, Nat.le_refl _, HS1⟩
      case round =>
        clear HS1
        obtain ⟨j, rfl, haj, hji, HJ⟩ := hrel
        obtain ⟨L2, hr2, hn2, ⟨hm2, hi2⟩, hk2⟩ := HJ.out
        clear HJ
        by_cases hja : a < j
        · obtain ⟨jp, rfl⟩ : ∃ jp, j = jp + 1 := ⟨j - 1, by omega⟩
          have hwp : IntKind.i64.wrap (jp : Int) = (jp : Int) := IntWalk.i64_in _ (by omega)
          have jz : (jp : Int) + 1 < (n : Int) := by omega
          have jz1 : (jp : Int) < (n : Int) := by omega
          have hjaz' : (a : Int) < (jp : Int) + 1 := by omega
          have p0 : (0 : Int) ≤ (jp : Int) + 1 := by omega
          have e0 : ((jp : Int) + 1).toNat = jp + 1 := by omega
          obtain ⟨x, hx⟩ : ∃ x, L2[jp + 1]? = some x := ⟨_, List.getElem?_eq_getElem (by omega)⟩
          obtain ⟨y, hy⟩ : ∃ y, L2[jp]? = some y := ⟨_, List.getElem?_eq_getElem (by omega)⟩
          have HR := Lib.hid hr2
          have HP := Lib.hid (And.intro hn2 (And.intro hm2 (And.intro hi2 hk2)))
          clear hr2 hn2 hm2 hi2 hk2
          have lx := fun d os => (HR.out.on (below_regrown wr d os)).load hx
          have ly := fun d os => (HR.out.on (below_regrown wr d os)).load hy
          obtain ⟨cz, hcz⟩ : ∃ z, cf x y = z := ⟨_, rfl⟩
          have k1 : ∀ d os, Calls Try.prog f #[Value.agg #[Value.int .i64 x.id, Value.int .i64 x.proc, Value.int .i64 x.obj, Value.int .i64 x.kind, Value.int .i64 x.meth, Value.int .i64 x.arg, Value.int .i64 x.sec, Value.bool x.done, Value.int .i64 x.res, Value.int .i64 x.inv, Value.int .i64 x.ret], Value.agg #[Value.int .i64 y.id, Value.int .i64 y.proc, Value.int .i64 y.obj, Value.int .i64 y.kind, Value.int .i64 y.meth, Value.int .i64 y.arg, Value.int .i64 y.sec, Value.bool y.done, Value.int .i64 y.res, Value.int .i64 y.inv, Value.int .i64 y.ret]] (grow (redrawn wr d) os) fun e w'' => e = .returned (.int .i64 cz) ∧ ∃ p : Regrown, w'' = grow (redrawn wr p.d) p.os := fun d os => Calls.regrown_of (by rw [← hcz]; exact HF.out.calls x y _)
          have K1 := Lib.hid k1
          have HCZ := Lib.hid (show decide (cz < 0) = ltO cf x y by unfold ltO; rw [hcz])
          have HX := Lib.hid hx
          have HY := Lib.hid hy
          clear k1 hcz hx hy
          by_cases hc : cz < 0
          · go_wp2_with fail
            refine wp_region_quiet_below (by kernel_rfl) (by kernel_rfl) ?_
            repeat (go_big_quiet_step (first | (with_reducible exact K1.out _ _)))
            refine wpQuiet_nil ?_
            intro _ hw'
            obtain ⟨⟨dq, osq⟩, hw''⟩ := hw'
            subst hw''
            have hr3 := HR.out.on (below_regrown wr dq osq)
            have hk3 := Keeps.regrown HP.out.2.2.2 dq osq
            obtain ⟨w3, hw3⟩ : ∃ W, grow (redrawn wr dq) osq = W := ⟨_, rfl⟩
            rw [hw3] at hr3 hk3 ⊢
            have HR3 := Lib.hid hr3
            have HK3 := Lib.hid hk3
            clear lx ly hw3 hr3 hk3
            obtain ⟨W1, W2, s1, s2, r2, k2⟩ := InRow.swap (HR3.out.on (below_drew _)) HX.out HY.out
            have lx2 := (HR3.out.on (below_drew _)).load HX.out
            have ly2 := (HR3.out.on (below_drew _)).load HY.out
            have R2 := Lib.hid r2
            have K2 := Lib.hid k2
            clear r2 k2
            go_wp2_with fail
            go_big_region_o
            all_goals go_wp2_with fail
            go_roundw
            case measure => simp [intOf] <;> omega
            case rel =>
              obtain ⟨p1, p2, p3, _⟩ := HP.out
              refine ⟨jp, by first | rfl | simp, by omega, by omega, Lib.hid ⟨_, R2.out, by rw [swp_len]; exact p1, ⟨p2.trans (Mv.swp (by omega) (by omega) (by omega) (by omega) (by omega)), ?_⟩, (HK3.out.drew).on K2.out⟩⟩
              have := p3.step HF.out.ord (by omega) (by omega) (by omega) HX.out HY.out (by rw [← HCZ.out]; exact decide_eq_true hc)
              exact this
          · go_wp2_with fail
            refine wp_region_quiet_below (by kernel_rfl) (by kernel_rfl) ?_
            repeat (go_big_quiet_step (first | (with_reducible exact K1.out _ _)))
            refine wpQuiet_nil ?_
            intro _ hw'
            obtain ⟨⟨dq, osq⟩, hw''⟩ := hw'
            subst hw''
            go_wp2_with fail
            go_roundw
            case measure => simp [intOf] <;> omega
            case rel =>
              obtain ⟨p1, p2, p3, p4⟩ := HP.out
              exact ⟨i + 1, by simp, by omega, by omega, Lib.hid ⟨L2, HR.out.on (below_regrown wr dq osq), p1, ⟨p2, (p3.done HF.out.ord (by omega) hji (.inr ⟨x, y, HX.out, HY.out, by rw [← HCZ.out]; exact decide_eq_false (by omega)⟩)).2⟩, Keeps.regrown p4 dq osq⟩⟩
        · have hjaz : decide ((j : Int) > (a : Int)) = false := decide_eq_false (by omega)
          have hjaz' : ¬ (a : Int) < (j : Int) := by omega
          have HR := Lib.hid (show RowAt g cap n w (fun L' => Mv L L' a b ∧ Sr (ltO cf) L' a (i + 1)) wr.drew from ⟨L2, hr2.on (below_drew _), hn2, ⟨hm2, (hi2.done HF.out.ord haj hji (.inl (by omega))).2⟩, hk2.drew⟩)
          clear hr2 hn2 hm2 hi2 hk2
          go_wp2_with fail
          go_big_region_o
          all_goals go_wp2_with fail
          go_roundw
          case measure => simp [intOf] <;> omega
          case rel => exact ⟨i + 1, by simp, by omega, by omega, HR⟩
    · have hltz : ¬ (i : Int) < (b : Int) := by omega
      obtain ⟨L1, hr1, hn1, ⟨hm1, hs1⟩, hk1⟩ := HI.out
      have HE := Lib.hid (show RowAt g cap n w (fun L' => Mv L L' a b ∧ Sr (ltO cf) L' a b) wr from ⟨L1, hr1, hn1, ⟨hm1, hs1.less (Nat.le_refl _) (by omega)⟩, hk1⟩)
      clear HI hr1 hn1 hm1 hs1 hk1
      go_wp2_with fail
      go_returns
      exact ⟨rfl, HE.out⟩
end Cu
end Go.Proofs.Ytgedlfilhpbfaaa
