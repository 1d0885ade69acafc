/- Histories: the reference's beside and Check; the same lists. -/
import Derived.Test.YtgedlfilhpbfaaaHtE
import Derived.Lib.QuietBelow
namespace Go.Proofs.Ytgedlfilhpbfaaa
set_option maxRecDepth 100000
open Go.ChangeShapes Go.WideShapes Go.ChangeAt Go.RowKit Go.PlainAid Go.Deep
open Go.Sort (grow)

attribute [local go_sem ↓ high] load_op store_o
set_option maxHeartbeats 8000000 in
theorem rbeside_any {v : Value} {l : List OpV} (o : OpV) {w : World} (h : OpsOf w v l) (hs : l.length ≤ 1048576) :
    Calls Try.prog 26 #[v, Value.agg #[Value.int .i64 o.id, Value.int .i64 o.proc, Value.int .i64 o.obj, Value.int .i64 o.kind, Value.int .i64 o.meth, Value.int .i64 o.arg, Value.int .i64 o.sec, Value.bool o.done, Value.int .i64 o.res, Value.int .i64 o.inv, Value.int .i64 o.ret]] w fun e w' => e = .returned (.int .i64 (Hs.besideZ HL l o)) ∧ Below w.heap.size w w' := by
  obtain ⟨ao, ac, rfl⟩ := h.len
  have hb0 : Below w.heap.size w (w.alloc (.cells #[Value.int .i64 o.id, Value.int .i64 o.proc, Value.int .i64 o.obj, Value.int .i64 o.kind, Value.int .i64 o.meth, Value.int .i64 o.arg, Value.int .i64 o.sec, Value.bool o.done, Value.int .i64 o.res, Value.int .i64 o.inv, Value.int .i64 o.ret] 35)) := by go_grown
  have ho := OpAt.box w o
  obtain ⟨W0, hW0⟩ : ∃ W, w.alloc (.cells #[Value.int .i64 o.id, Value.int .i64 o.proc, Value.int .i64 o.obj, Value.int .i64 o.kind, Value.int .i64 o.meth, Value.int .i64 o.arg, Value.int .i64 o.sec, Value.bool o.done, Value.int .i64 o.res, Value.int .i64 o.inv, Value.int .i64 o.ret] 35) = W := ⟨_, rfl⟩
  rw [hW0] at hb0 ho
  have HO := Lib.hid ho
  have HB := Lib.hid hb0
  have H := Lib.hid (h.on hb0)
  clear h ho hb0
  go_enter Try.func26, Try.ntmps26
  go_wp2_with fail
  clear hW0
  go_loopw [5] (fun s5 wr => ∃ k : Nat, s5 = .int .i64 k ∧ k ≤ l.length ∧ Hid (Below W0.heap.size W0 wr ∧ ∀ (t : Nat) (a : OpV), t < k → l[t]? = some a → otherC (kindC o) o a = false)) (fun s5 _ => l.length - (intOf s5).toNat)
  case atStart => exact ⟨0, rfl, Nat.zero_le _, Lib.hid ⟨Below.refl _ _, fun t a ht => absurd ht (Nat.not_lt_zero _)⟩⟩
  case round =>
    obtain ⟨k, rfl, hk, HI⟩ := hrel
    by_cases hkl : k < l.length
    · obtain ⟨x, hx⟩ : ∃ x, l[k]? = some x := ⟨_, List.getElem?_eq_getElem hkl⟩
      obtain ⟨b, p, cap, hv, hblt, hwf, hcc⟩ := OpsOf.at (H.out.on HI.out.1) hx
      have e0 : ao = some ⟨b, p, none⟩ := by cases hv; rfl
      subst e0
      have c0 : wr.cell? ⟨b, p + k * 11, none⟩ = some (.int .i64 x.id) := hcc 0 _ rfl
      have c2 : wr.cell? ⟨b, p + k * 11 + 2, none⟩ = some (.int .i64 x.obj) := hcc 2 _ rfl
      have c3 : wr.cell? ⟨b, p + k * 11 + 3, none⟩ = some (.int .i64 x.kind) := hcc 3 _ rfl
      obtain ⟨o0, _, o2, o3, _⟩ := (HO.out.on HI.out.1).cell
      have q1 : decide ((k : Int) < (l.length : Int)) = true := decide_eq_true (by omega)
      have q2 : (k : Int) < (l.length : Int) := by omega
      have q3 : IntKind.i64.wrap ((k : Int) + 1) = (k : Int) + 1 := IntWalk.i64_in _ (by omega)
      have q4 : (0 : Int) ≤ (k : Int) := by omega
      have HX := Lib.hid hx
      have HK := Lib.hid hkl
      clear hv hblt hwf hcc hx hk hkl
      have step : otherC (kindC o) o x = false → Hid (∀ (t : Nat) (a : OpV), t < k + 1 → l[t]? = some a → otherC (kindC o) o a = false) := fun hc t a ht hta => by
        by_cases c : t = k
        · subst c
          rw [HX.out] at hta
          rw [← Option.some.inj hta]
          exact hc
        · exact HI.out.2 t a (by omega) hta
      by_cases d1 : x.id = o.id
      · have e1 : (x.id != o.id) = false := by rw [d1]; simp
        have HN := step (other_no d1)
        clear d1 step
        go_wp2_with fail
        go_quiet (fail)
        go_wp2_with fail
        go_roundw
        case measure => have := HK.out; simp [intOf]; omega
        case rel => exact ⟨k + 1, by simp, HK.out, Lib.hid ⟨HI.out.1.on (below_drewN _ _), HN.out⟩⟩
      · have e1 : (x.id != o.id) = true := bne_iff_ne.2 d1
        have D1 := Lib.hid (other_yes (p := kindC o) d1)
        clear d1
        by_cases d2 : x.obj = o.obj
        · have e2 : (x.obj == o.obj) = true := beq_iff_eq.2 d2
          have D2 := Lib.hid (kind_yes d2)
          clear d2
          by_cases d3 : x.kind = o.kind
          · have e3 : (x.kind != o.kind) = false := by rw [d3]; simp
            have HN := step (by rw [D1.out, D2.out]; exact e3)
            clear d3 step
            go_wp2_with fail
            go_quiet (fail)
            go_wp2_with fail
            go_roundw
            case measure => have := HK.out; simp [intOf]; omega
            case rel => exact ⟨k + 1, by simp, HK.out, Lib.hid ⟨HI.out.1.on (below_drewN _ _), HN.out⟩⟩
          · have e3 : (x.kind != o.kind) = true := bne_iff_ne.2 d3
            have HE := Lib.hid (side_kind (any_snoc (p := otherC (kindC o) o) HX.out (by rw [D1.out, D2.out]; exact e3)))
            clear d3 step
            go_wp2_with fail
            go_quiet (fail)
            go_wp2_with fail
            go_returns
            exact ⟨by rw [HE.out]; rfl, HB.out.on (HI.out.1.on (below_drewN _ _))⟩
        · have e2 : (x.obj == o.obj) = false := beq_eq_false_iff_ne.2 d2
          have HN := step (by rw [D1.out, kind_no d2])
          clear d2 step
          go_wp2_with fail
          go_quiet (fail)
          go_wp2_with fail
          go_roundw
          case measure => have := HK.out; simp [intOf]; omega
          case rel => exact ⟨k + 1, by simp, HK.out, Lib.hid ⟨HI.out.1.on (below_drewN _ _), HN.out⟩⟩
    · have q1 : decide ((k : Int) < (l.length : Int)) = false := decide_eq_false (by omega)
      have q2 : ((k : Int) < (l.length : Int)) = False := eq_false (by omega)
      have HNK := Lib.hid (any_none HI.out.2 (show l.length ≤ k by omega))
      have HBa := Lib.hid HI.out.1
      clear hk hkl HI
      go_wp2_with fail
      clear q1 q2
      go_loopw [6] (fun s6 wr => ∃ i : Nat, s6 = .int .i64 i ∧ i ≤ l.length ∧ Hid (Below W0.heap.size W0 wr ∧ ∀ (t : Nat) (a : OpV), t < i → l[t]? = some a → otherC (busyC o) o a = false)) (fun s6 _ => l.length - (intOf s6).toNat)
      case atStart => exact ⟨0, rfl, Nat.zero_le _, Lib.hid ⟨HBa.out, fun t a ht => absurd ht (Nat.not_lt_zero _)⟩⟩
      case round =>
        clear HBa
        obtain ⟨k, rfl, hk, HI⟩ := hrel
        by_cases hkl : k < l.length
        · obtain ⟨x, hx⟩ : ∃ x, l[k]? = some x := ⟨_, List.getElem?_eq_getElem hkl⟩
          have hH := H.out.on HI.out.1
          obtain ⟨b, p, cap, hv, hblt, hwf, hcc⟩ := OpsOf.at hH hx
          have e0 : ao = some ⟨b, p, none⟩ := by cases hv; rfl
          subst e0
          have cW : ∀ d os (j : Nat) (u : Value), (#[Value.int .i64 x.id, Value.int .i64 x.proc, Value.int .i64 x.obj, Value.int .i64 x.kind, Value.int .i64 x.meth, Value.int .i64 x.arg, Value.int .i64 x.sec, Value.bool x.done, Value.int .i64 x.res, Value.int .i64 x.inv, Value.int .i64 x.ret].toList)[j]? = some u → (grow (redrawn wr d) os).cell? ⟨b, p + k * 11 + j, none⟩ = some u := fun d os j u hj => ((below_regrown wr d os).cell (p := ⟨b, p + k * 11 + j, none⟩) hblt).trans (hcc j u hj)
          have c0 : ∀ d os, (grow (redrawn wr d) os).cell? ⟨b, p + k * 11, none⟩ = some (.int .i64 x.id) := fun d os => cW d os 0 _ rfl
          have c1 : ∀ d os, (grow (redrawn wr d) os).cell? ⟨b, p + k * 11 + 1, none⟩ = some (.int .i64 x.proc) := fun d os => cW d os 1 _ rfl
          have lx := fun d os => load_cellsO (w := grow (redrawn wr d) os) (p := p + k * 11) (cW d os)
          have oW := fun d os => (HO.out.on HI.out.1).on (below_regrown wr d os)
          have lo := fun d os => (oW d os).load
          have o0 : ∀ d os, (grow (redrawn wr d) os).cell? ⟨w.heap.size, 0, none⟩ = some (.int .i64 o.id) := fun d os => (oW d os).cell.1
          have o1 : ∀ d os, (grow (redrawn wr d) os).cell? ⟨w.heap.size, 1, none⟩ = some (.int .i64 o.proc) := fun d os => (oW d os).cell.2.1
          have q1 : decide ((k : Int) < (l.length : Int)) = true := decide_eq_true (by omega)
          have q2 : (k : Int) < (l.length : Int) := by omega
          have q3 : IntKind.i64.wrap ((k : Int) + 1) = (k : Int) + 1 := IntWalk.i64_in _ (by omega)
          have q4 : (0 : Int) ≤ (k : Int) := by omega
          have HX := Lib.hid hx
          have HK := Lib.hid hkl
          clear hv hblt hwf hcc hx hk hkl hH cW oW
          obtain ⟨r1, hr1⟩ : ∃ r, befB x o = r := ⟨_, rfl⟩
          obtain ⟨r2, hr2⟩ : ∃ r, befB o x = r := ⟨_, rfl⟩
          have k1 : ∀ d os, Calls Try.prog 17 #[Value.agg #[Value.int .i64 x.id, Value.int .i64 x.proc, Value.int .i64 x.obj, Value.int .i64 x.kind, Value.int .i64 x.meth, Value.int .i64 x.arg, Value.int .i64 x.sec, Value.bool x.done, Value.int .i64 x.res, Value.int .i64 x.inv, Value.int .i64 x.ret], Value.agg #[Value.int .i64 o.id, Value.int .i64 o.proc, Value.int .i64 o.obj, Value.int .i64 o.kind, Value.int .i64 o.meth, Value.int .i64 o.arg, Value.int .i64 o.sec, Value.bool o.done, Value.int .i64 o.res, Value.int .i64 o.inv, Value.int .i64 o.ret]] (grow (redrawn wr d) os) fun e w'' => e = .returned (.bool r1) ∧ ∃ p : Regrown, w'' = grow (redrawn wr p.d) p.os := fun d os => Calls.regrown_of (by rw [← hr1]; exact rbefore_any x o _)
          have k2 : ∀ d os, Calls Try.prog 17 #[Value.agg #[Value.int .i64 o.id, Value.int .i64 o.proc, Value.int .i64 o.obj, Value.int .i64 o.kind, Value.int .i64 o.meth, Value.int .i64 o.arg, Value.int .i64 o.sec, Value.bool o.done, Value.int .i64 o.res, Value.int .i64 o.inv, Value.int .i64 o.ret], Value.agg #[Value.int .i64 x.id, Value.int .i64 x.proc, Value.int .i64 x.obj, Value.int .i64 x.kind, Value.int .i64 x.meth, Value.int .i64 x.arg, Value.int .i64 x.sec, Value.bool x.done, Value.int .i64 x.res, Value.int .i64 x.inv, Value.int .i64 x.ret]] (grow (redrawn wr d) os) fun e w'' => e = .returned (.bool r2) ∧ ∃ p : Regrown, w'' = grow (redrawn wr p.d) p.os := fun d os => Calls.regrown_of (by rw [← hr2]; exact rbefore_any o x _)
          have K1 := Lib.hid k1
          have K2 := Lib.hid k2
          have HOV := Lib.hid (show overB x o = (!r1 && !r2) by unfold overB; rw [hr1, hr2])
          clear k1 k2 hr1 hr2
          have step : otherC (busyC o) o x = false → Hid (∀ (t : Nat) (a : OpV), t < k + 1 → l[t]? = some a → otherC (busyC o) o a = false) := fun hc t a ht hta => by
            by_cases c : t = k
            · subst c
              rw [HX.out] at hta
              rw [← Option.some.inj hta]
              exact hc
            · exact HI.out.2 t a (by omega) hta
          by_cases d1 : x.id = o.id
          · have e1 : (x.id != o.id) = false := by rw [d1]; simp
            have HN := step (other_no d1)
            clear d1 step
            go_wp2_with fail
            refine wp_region_quiet_below (by kernel_rfl) (by kernel_rfl) ?_
            repeat (go_big_quiet_step (first | (with_reducible exact K1.out _ _) | (with_reducible exact K2.out _ _)))
            refine wpQuiet_nil ?_
            intro _ hw'
            obtain ⟨⟨dq, osq⟩, hw''⟩ := hw'
            subst hw''
            go_wp2_with fail
            go_roundw
            case measure => have := HK.out; simp [intOf]; omega
            case rel => exact ⟨k + 1, by simp, HK.out, Lib.hid ⟨HI.out.1.on (below_regrown wr dq osq), HN.out⟩⟩
          · have e1 : (x.id != o.id) = true := bne_iff_ne.2 d1
            have D1 := Lib.hid (other_yes (p := busyC o) d1)
            clear d1
            by_cases d2 : x.proc = o.proc
            · have e2 : (x.proc == o.proc) = true := beq_iff_eq.2 d2
              have D2 := Lib.hid (busy_yes d2)
              clear d2
              cases r1
              · cases r2
                · have HE := Lib.hid (side_busy HNK.out (any_snoc (p := otherC (busyC o) o) HX.out (by rw [D1.out, D2.out, HOV.out]; rfl)))
                  clear step
                  go_wp2_with fail
                  refine wp_region_quiet_below (by kernel_rfl) (by kernel_rfl) ?_
                  repeat (go_big_quiet_step (first | (with_reducible exact K1.out _ _) | (with_reducible exact K2.out _ _)))
                  refine wpQuiet_nil ?_
                  intro _ hw'
                  obtain ⟨⟨dq, osq⟩, hw''⟩ := hw'
                  subst hw''
                  go_wp2_with fail
                  go_returns
                  exact ⟨by rw [HE.out]; rfl, HB.out.on (HI.out.1.on (below_regrown wr dq osq))⟩
                · have HN := step (by rw [D1.out, D2.out, HOV.out]; rfl)
                  clear step
                  go_wp2_with fail
                  refine wp_region_quiet_below (by kernel_rfl) (by kernel_rfl) ?_
                  repeat (go_big_quiet_step (first | (with_reducible exact K1.out _ _) | (with_reducible exact K2.out _ _)))
                  refine wpQuiet_nil ?_
                  intro _ hw'
                  obtain ⟨⟨dq, osq⟩, hw''⟩ := hw'
                  subst hw''
                  go_wp2_with fail
                  go_roundw
                  case measure => have := HK.out; simp [intOf]; omega
                  case rel => exact ⟨k + 1, by simp, HK.out, Lib.hid ⟨HI.out.1.on (below_regrown wr dq osq), HN.out⟩⟩
              · have HN := step (by rw [D1.out, D2.out, HOV.out]; rfl)
                clear step
                go_wp2_with fail
                refine wp_region_quiet_below (by kernel_rfl) (by kernel_rfl) ?_
                repeat (go_big_quiet_step (first | (with_reducible exact K1.out _ _) | (with_reducible exact K2.out _ _)))
                refine wpQuiet_nil ?_
                intro _ hw'
                obtain ⟨⟨dq, osq⟩, hw''⟩ := hw'
                subst hw''
                go_wp2_with fail
                go_roundw
                case measure => have := HK.out; simp [intOf]; omega
                case rel => exact ⟨k + 1, by simp, HK.out, Lib.hid ⟨HI.out.1.on (below_regrown wr dq osq), HN.out⟩⟩
            · have e2 : (x.proc == o.proc) = false := beq_eq_false_iff_ne.2 d2
              have HN := step (by rw [D1.out, busy_no d2])
              clear d2 step
              go_wp2_with fail
              refine wp_region_quiet_below (by kernel_rfl) (by kernel_rfl) ?_
              repeat (go_big_quiet_step (first | (with_reducible exact K1.out _ _) | (with_reducible exact K2.out _ _)))
              refine wpQuiet_nil ?_
              intro _ hw'
              obtain ⟨⟨dq, osq⟩, hw''⟩ := hw'
              subst hw''
              go_wp2_with fail
              go_roundw
              case measure => have := HK.out; simp [intOf]; omega
              case rel => exact ⟨k + 1, by simp, HK.out, Lib.hid ⟨HI.out.1.on (below_regrown wr dq osq), HN.out⟩⟩
        · have q1 : decide ((k : Int) < (l.length : Int)) = false := decide_eq_false (by omega)
          have q2 : ((k : Int) < (l.length : Int)) = False := eq_false (by omega)
          have HE := Lib.hid (side_none HNK.out (any_none HI.out.2 (show l.length ≤ k by omega)))
          clear hk hkl
          go_wp2_with fail
          go_returns
          exact ⟨by rw [HE.out]; rfl, HB.out.on HI.out.1⟩
end Go.Proofs.Ytgedlfilhpbfaaa
