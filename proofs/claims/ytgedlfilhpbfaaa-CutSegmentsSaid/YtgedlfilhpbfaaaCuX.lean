/- The document's answers for package cut: Mixed, Same, Sorted. -/
import Derived.Test.YtgedlfilhpbfaaaCuV
import Derived.Laws.StructEq
namespace Go.Proofs.Ytgedlfilhpbfaaa
set_option maxRecDepth 100000
open Go.ChangeShapes Go.WideShapes Go.ChangeAt Go.RowKit Go.PlainAid Go.Deep Go.Shelf Go.Sort
namespace Cu
attribute [local go_sem ↓ high] load_op store_o load_s app_opO
/-- Has a list operations of one number that are unlike? -/
def MixU (l : List OpV) (i j : Nat) : Prop := ∀ (s t : Nat) (x y : OpV), (s < i ∨ s = i ∧ t < j) → t < s → l[s]? = some x → l[t]? = some y → x.id = y.id → x = y
theorem MixU.next {l : List OpV} {i : Nat} (h : MixU l i i) : MixU l (i + 1) 0 := fun s t x y hs ht hx hy he => h s t x y (by omega) ht hx hy he
theorem MixU.step {l : List OpV} {i j : Nat} (h : MixU l i j) (hx : ∀ x y, l[i]? = some x → l[j]? = some y → x.id = y.id → x = y) : MixU l i (j + 1) := fun s t x y hs ht h1 h2 he => by
  by_cases c : s = i ∧ t = j
  · obtain ⟨rfl, rfl⟩ := c
    exact hx x y h1 h2 he
  · exact h s t x y (by omega) ht h1 h2 he
theorem MixU.alike {l : List OpV} {i : Nat} (h : MixU l i 0) (hi : l.length ≤ i) : Alike l := fun x hx y hy he => by
  obtain ⟨s, hs, rfl⟩ := List.mem_iff_getElem.1 hx
  obtain ⟨t, ht, rfl⟩ := List.mem_iff_getElem.1 hy
  rcases Nat.lt_trichotomy s t with c | rfl | c
  · exact (h t s _ _ (.inl (by omega)) c (List.getElem?_eq_getElem ht) (List.getElem?_eq_getElem hs) he.symm).symm
  · rfl
  · exact h s t _ _ (.inl (by omega)) c (List.getElem?_eq_getElem hs) (List.getElem?_eq_getElem ht) he
theorem wf_ext {x y : OpV} (h : x ≠ y) : ¬ (x.id = y.id ∧ x.proc = y.proc ∧ x.obj = y.obj ∧ x.kind = y.kind ∧ x.meth = y.meth ∧ x.arg = y.arg ∧ x.sec = y.sec ∧ x.done = y.done ∧ x.res = y.res ∧ x.inv = y.inv ∧ x.ret = y.ret) := fun ⟨a, b, c, d, e, f, g, i, j, k, l⟩ => h (by cases x; cases y; simp only at *; subst_vars; rfl)
theorem neq_op {x y : OpV} (h : x ≠ y) (w : World) : (binOp .neq 35 (Value.agg #[Value.int .i64 x.id, Value.int .i64 x.proc, Value.int .i64 x.obj, Value.int .i64 x.kind, Value.int .i64 x.meth, Value.int .i64 x.arg, Value.int .i64 x.sec, Value.bool x.done, Value.int .i64 x.res, Value.int .i64 x.inv, Value.int .i64 x.ret]) (Value.agg #[Value.int .i64 y.id, Value.int .i64 y.proc, Value.int .i64 y.obj, Value.int .i64 y.kind, Value.int .i64 y.meth, Value.int .i64 y.arg, Value.int .i64 y.sec, Value.bool y.done, Value.int .i64 y.res, Value.int .i64 y.inv, Value.int .i64 y.ret])).run Try.prog w = .ok (.bool true) w := by
  have hne := wf_ext h
  simp [go_sem, Try.underlying35, Try.underlying3, Try.underlying4]
  intro a b c d e f g i j k l
  exact hne ⟨a, b, c, d, e, f, g, i, j, k, l⟩
/-- Two operations, side by side, as values. -/
def MixPost (l : List OpV) (w : World) (e : Ending) (w' : World) : Prop := ∃ b, e = .returned (.bool b) ∧ Below w.heap.size w w' ∧ (b = false → Alike l)
set_option maxHeartbeats 4000000 in
theorem mixed_any {v : Value} {l : List OpV} {w : World} (h : OpsOf w v l) (hs : l.length ≤ 1048576) : Calls Try.prog 7 #[v] w (MixPost l w) := by
  obtain ⟨ao, ac, rfl⟩ := h.len
  have H := Lib.hid h
  clear h
  go_enter Try.func7, Try.ntmps7
  go_wp2_with fail
  go_loopw [3] (fun s3 wr => ∃ i : Nat, s3 = .int .i64 i ∧ i ≤ l.length ∧ Hid (MixU l i 0 ∧ Below w.heap.size w wr)) (fun s3 _ => l.length - (intOf s3).toNat)
  case atStart => exact ⟨0, rfl, Nat.zero_le _, Lib.hid ⟨fun s t x y hs => by omega, Below.refl _ _⟩⟩
  case round =>
    obtain ⟨i, rfl, hi, HI⟩ := hrel
    by_cases hil : i < l.length
    case neg =>
      obtain rfl : i = l.length := by omega
      have q1 : ¬ ((l.length : Int) < (l.length : Int)) := by omega
      have HE := Lib.hid (And.intro HI.out.2 (HI.out.1.alike (Nat.le_refl _)))
      go_wp2_with fail
      go_returns
      exact ⟨false, rfl, HE.out.1, fun _ => HE.out.2⟩
    have q1 : (i : Int) < (l.length : Int) := by omega
    have q2 : IntKind.i64.wrap ((i : Int) + 1) = (i : Int) + 1 := IntWalk.i64_in _ (by omega)
    obtain ⟨x, hx⟩ : ∃ x, l[i]? = some x := ⟨_, List.getElem?_eq_getElem hil⟩
    have HX := Lib.hid hx
    clear hx
    go_wp2_with fail
    go_loopw [4] (fun s4 wr => ∃ j : Nat, s4 = .int .i64 j ∧ j ≤ i ∧ Hid (MixU l i j ∧ Below w.heap.size w wr)) (fun s4 _ => i - (intOf s4).toNat)
    case atStart => exact ⟨0, rfl, Nat.zero_le _, HI⟩
    case round =>
      clear HI
      obtain ⟨j, rfl, hj, HJ⟩ := hrel
      by_cases hji : j < i
      case neg =>
        obtain rfl : j = i := by omega
        have q3 : ¬ ((j : Int) < (j : Int)) := by omega
        have HE := Lib.hid (And.intro HJ.out.1.next HJ.out.2)
        go_wp2_with fail
        go_roundw
        case measure => simp [intOf] <;> omega
        case rel => exact ⟨j + 1, by simp, by omega, HE⟩
      have q3 : (j : Int) < (i : Int) := by omega
      have q4 : IntKind.i64.wrap ((j : Int) + 1) = (j : Int) + 1 := IntWalk.i64_in _ (by omega)
      have q5 : (j : Int) < (l.length : Int) := by omega
      obtain ⟨y, hy⟩ : ∃ y, l[j]? = some y := ⟨_, List.getElem?_eq_getElem (by omega)⟩
      obtain ⟨b, p, c, hv, hlt, _, hc⟩ := OpsOf.at (H.out.on HJ.out.2) HX.out
      obtain rfl : ao = some ⟨b, p, none⟩ := by cases hv; rfl
      obtain ⟨b2, p2, c2, hv2, hlt2, _, hc2⟩ := OpsOf.at (H.out.on HJ.out.2) hy
      obtain ⟨rfl, rfl⟩ : b = b2 ∧ p = p2 := by cases hv2; exact ⟨rfl, rfl⟩
      have m1 := fun e os => load_cellsO (w := grow (redrawn wr e) os) (p := p + i * 11) (fun t u ht => ((below_regrown wr e os).cell (p := ⟨b, p + i * 11 + t, none⟩) hlt).trans (hc t u ht))
      have m2 := fun e os => load_cellsO (w := grow (redrawn wr e) os) (p := p + j * 11) (fun t u ht => ((below_regrown wr e os).cell (p := ⟨b, p + j * 11 + t, none⟩) hlt).trans (hc2 t u ht))
      have m3 : ∀ e os, (grow (redrawn wr e) os).cell? ⟨b, p + i * 11, none⟩ = some (.int .i64 x.id) := fun e os => ((below_regrown wr e os).cell (p := ⟨b, p + i * 11 + 0, none⟩) hlt).trans (hc 0 _ rfl)
      have m4 : ∀ e os, (grow (redrawn wr e) os).cell? ⟨b, p + j * 11, none⟩ = some (.int .i64 y.id) := fun e os => ((below_regrown wr e os).cell (p := ⟨b, p + j * 11 + 0, none⟩) hlt).trans (hc2 0 _ rfl)
      have HY := Lib.hid hy
      clear hv hlt hc hv2 hlt2 hc2 hy
      by_cases hid : x.id = y.id
      case neg =>
        have q6 : (x.id == y.id) = false := beq_eq_false_iff_ne.2 hid
        have HE := Lib.hid (show MixU l i (j + 1) from HJ.out.1.step fun a b ha hb he => by
          rw [HX.out] at ha; rw [HY.out] at hb; cases ha; cases hb; exact absurd he hid)
        clear hid
        go_wp2_with fail
        refine wp_region_quiet_below (by kernel_rfl) (by kernel_rfl) ?_
        repeat (go_big_quiet_step (fail))
        refine wpQuiet_nil ?_
        intro _ hw'
        obtain ⟨⟨dq, osq⟩, hw''⟩ := hw'
        subst hw''
        go_wp2_with fail
        go_roundw
        case measure => simp [intOf] <;> omega
        case rel => exact ⟨j + 1, by simp, by omega, Lib.hid ⟨HE.out, HJ.out.2.on (below_regrown wr dq osq)⟩⟩
      by_cases hxy : x = y
      case pos =>
        subst hxy
        have HE := Lib.hid (show MixU l i (j + 1) from HJ.out.1.step fun a b ha hb he => by
          rw [HX.out] at ha; rw [HY.out] at hb; cases ha; cases hb; rfl)
        clear hid
        go_wp2_with fail
        refine wp_region_quiet_below (by kernel_rfl) (by kernel_rfl) ?_
        repeat (go_big_quiet_step (fail))
        refine wpQuiet_nil ?_
        intro _ hw'
        obtain ⟨⟨dq, osq⟩, hw''⟩ := hw'
        subst hw''
        go_wp2_with fail
        go_roundw
        case measure => simp [intOf] <;> omega
        case rel => exact ⟨j + 1, by simp, by omega, Lib.hid ⟨HE.out, HJ.out.2.on (below_regrown wr dq osq)⟩⟩
      case neg =>
        have q7 := fun w => neq_op hxy w
        have q6 : (x.id == y.id) = true := beq_iff_eq.2 hid
        clear hid hxy
        go_wp2_with fail
        refine wp_region_quiet_below (by kernel_rfl) (by kernel_rfl) ?_
        repeat (go_big_quiet_step (fail))
        refine wpQuiet_nil ?_
        intro _ hw'
        obtain ⟨⟨dq, osq⟩, hw''⟩ := hw'
        subst hw''
        go_wp2_with fail
        go_returns
        exact ⟨true, rfl, HJ.out.2.on (below_regrown wr dq osq), fun e => by cases e⟩
end Cu
end Go.Proofs.Ytgedlfilhpbfaaa
