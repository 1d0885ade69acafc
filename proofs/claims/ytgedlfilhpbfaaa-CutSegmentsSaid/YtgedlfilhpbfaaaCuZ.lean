/- The document's answers for package cut: Same, Segments. -/
import Derived.Test.YtgedlfilhpbfaaaCuX
import Derived.Test.YtgedlfilhpbfaaaCuY
namespace Go.Proofs.Ytgedlfilhpbfaaa
set_option maxRecDepth 100000
open Go.ChangeShapes Go.WideShapes Go.ChangeAt Go.RowKit Go.PlainAid Go.Deep Go.Shelf Go.Sort
namespace Cu
attribute [local go_sem ↓ high] load_op store_o load_s app_opO app_seg
set_option maxHeartbeats 2000000 in
/-- Two lists of the same segments. -/
theorem same_any {v u : Value} {l : List SegV} {w : World} (h : SegsOf w v l) (h' : SegsOf w u l) (hl : l.length ≤ 65536) (hs : ∀ s ∈ l, s.ops.length ≤ 65536) : Calls Try.prog 9 #[v, u] w fun e w' => e = .returned (.bool true) ∧ Below w.heap.size w w' := by
  obtain ⟨ao, ac, rfl⟩ := h.len
  obtain ⟨bo, bc, rfl⟩ := h'.len
  have H := Lib.hid h
  have H' := Lib.hid h'
  have HS := Lib.hid hs
  clear h h' hs
  go_enter Try.func9, Try.ntmps9
  go_wp2_with fail
  go_loopw [5] (fun s5 wr => ∃ i : Nat, s5 = .int .i64 i ∧ i ≤ l.length ∧ Hid (Below w.heap.size w wr)) (fun s5 _ => l.length - (intOf s5).toNat)
  case atStart => exact ⟨0, rfl, Nat.zero_le _, Lib.hid (Below.refl _ _)⟩
  case round =>
    obtain ⟨i, rfl, hi, HI⟩ := hrel
    by_cases hil : i < l.length
    case neg =>
      obtain rfl : i = l.length := by omega
      have q1 : ¬ ((l.length : Int) < (l.length : Int)) := by omega
      go_wp2_with fail
      go_returns
      exact ⟨rfl, HI.out⟩
    have q1 : (i : Int) < (l.length : Int) := by omega
    have q2 : IntKind.i64.wrap ((i : Int) + 1) = (i : Int) + 1 := IntWalk.i64_in _ (by omega)
    obtain ⟨s, hsi⟩ : ∃ s, l[i]? = some s := ⟨_, List.getElem?_eq_getElem hil⟩
    obtain ⟨b, cb, x, hv, hlt, hx, hc⟩ := (H.out.on HI.out).at hsi
    obtain rfl : ao = some ⟨b, 0, none⟩ := by cases hv; rfl
    obtain ⟨b', cb', y, hv', hlt', hy, hc'⟩ := (H'.out.on HI.out).at hsi
    obtain rfl : bo = some ⟨b', 0, none⟩ := by cases hv'; rfl
    have g0 : ∀ e os, (grow (redrawn wr e) os).cell? ⟨b, i * 3, none⟩ = some (.int .i64 s.obj) := fun e os => ((below_regrown wr e os).cell (p := ⟨b, i * 3 + 0, none⟩) hlt).trans (hc 0 _ rfl)
    have g1 : ∀ e os, (grow (redrawn wr e) os).cell? ⟨b, i * 3 + 1, none⟩ = some (.int .i64 s.kind) := fun e os => ((below_regrown wr e os).cell (p := ⟨b, i * 3 + 1, none⟩) hlt).trans (hc 1 _ rfl)
    have g2 : ∀ e os, (grow (redrawn wr e) os).cell? ⟨b, i * 3 + 2, none⟩ = some x := fun e os => ((below_regrown wr e os).cell (p := ⟨b, i * 3 + 2, none⟩) hlt).trans (hc 2 _ rfl)
    have g3 : ∀ e os, (grow (redrawn wr e) os).cell? ⟨b', i * 3, none⟩ = some (.int .i64 s.obj) := fun e os => ((below_regrown wr e os).cell (p := ⟨b', i * 3 + 0, none⟩) hlt').trans (hc' 0 _ rfl)
    have g4 : ∀ e os, (grow (redrawn wr e) os).cell? ⟨b', i * 3 + 1, none⟩ = some (.int .i64 s.kind) := fun e os => ((below_regrown wr e os).cell (p := ⟨b', i * 3 + 1, none⟩) hlt').trans (hc' 1 _ rfl)
    have g5 : ∀ e os, (grow (redrawn wr e) os).cell? ⟨b', i * 3 + 2, none⟩ = some y := fun e os => ((below_regrown wr e os).cell (p := ⟨b', i * 3 + 2, none⟩) hlt').trans (hc' 2 _ rfl)
    have k1 : ∀ e os, Calls Try.prog 15 #[x, y] (grow (redrawn wr e) os) fun r w'' => r = .returned (.bool true) ∧ ∃ p : Regrown, w'' = grow (redrawn wr p.d) p.os := fun e os => Calls.regrown_of (rops_any (hx.on (below_regrown wr e os)) (hy.on (below_regrown wr e os)) (by have := HS.out s (List.mem_of_getElem? hsi); omega))
    have K1 := Lib.hid k1
    clear hv hlt hx hc hv' hlt' hy hc' hsi k1
    go_wp2_with fail
    refine wp_region_quiet_below (by kernel_rfl) (by kernel_rfl) ?_
    repeat (go_big_quiet_step (first | (with_reducible exact K1.out _ _)))
    refine wpQuiet_nil ?_
    intro _ hw'
    obtain ⟨⟨dq, osq⟩, hw''⟩ := hw'
    subst hw''
    go_wp2_with fail
    go_roundw
    case measure => simp [intOf] <;> omega
    case rel => exact ⟨i + 1, by simp, by omega, Lib.hid (HI.out.on (below_regrown wr dq osq))⟩
end Cu
end Go.Proofs.Ytgedlfilhpbfaaa
