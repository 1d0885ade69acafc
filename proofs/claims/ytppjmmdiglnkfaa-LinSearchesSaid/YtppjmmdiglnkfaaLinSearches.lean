/- The exits of every small segment from any states, how many spots there are, and whether a budget is enough are what the document's own search answers, and a segment of more than sixteen operations is too many: for every segment, states and budget. Conditions: none. -/
import Derived.Test.YtppjmmdiglnkfaaQay
import Derived.Test.YtppjmmdiglnkfaaQbd
import Derived.Test.YtppjmmdiglnkfaaQbe
import Derived.Test.YtppjmmdiglnkfaaQbl
import Derived.Test.YtppjmmdiglnkfaaLaw
import Derived.BigQuiet
import Derived.Deep.QuietTactic
import Derived.Lib.QuietBelow
import Derived.Deep.DeepCutAuto
import Derived.Deep.CutBlock
namespace Go.Proofs.Ytppjmmdiglnkfaa.linSearches
open Go.ChangeShapes Go.WideShapes Go.ChangeAt Go.RowKit Go.PlainAid
open Go.ChangeMaps (open_string)
open Go.Sort (grow)

theorem own : ownKnob Try.prog.godebug = none := by kernel_rfl
theorem laidOut : laidOutB Try.prog = true := by kernel_rfl
open Ln
theorem stc_q {w : World} {v : Value} {l : List (List Int)} (h : StsC w v l) : StsQ CapOk w v l := by
  obtain ⟨vs, h1, h2⟩ := h
  exact ⟨vs, h1, fun i u s hu hs => ⟨(h2 i u s hu hs).ints, (h2 i u s hu hs).2⟩⟩
def FtS (l : List OpV) (s : List Int) : Prop := ∀ o ∈ l, o.kind = 5 → risesB s = true
theorem ris_step {o : OpV} {s : List Int} (h5 : o.kind = 5) (h : risesB s = true) (hst : (stepC o s).2 = true) : risesB (stepC o s).1 = true := by
  have hd : (stepC o s).1 = (doC o s).1 := by
    unfold stepC at hst ⊢
    split at hst
    · rename_i hc
      first | rfl | rw [if_pos hc]
    · cases hst
  rw [hd]
  unfold doC
  simp only [h5]
  first | exact set_rises h | (simp; exact set_rises h)
theorem rk_kind {l : List OpV} {k : Int} (hk : ∀ o ∈ l, o.kind = k) : RK (FtS l) l := ⟨fun o ho s h h5 => h o ho h5, fun o ho s h hst o' ho' h5 => ris_step (by rw [hk o ho, ← hk o' ho']; exact h5) (h o' ho' h5) hst⟩
theorem ans_eq {l : List OpV} {ents : List (List Int)} {lim : Int} {P Q P' Q' : List (List Int)} {n z n' z' : Int} (h : Ln.Ans l ents lim P Q n z) (h' : Ln.Ans l ents lim P' Q' n' z') (hl : l.length ≤ 16) (hx : ∃ r, US ents r) : z' = z ∧ P' = P ∧ Q' = Q ∧ n' = n := by
  obtain ⟨first, hf⟩ := hx
  by_cases c : ((bfs l lim most 0 (starts first)).length : Int) ≤ lim
  · obtain ⟨a, b, d, e⟩ := h.good hl first hf c
    obtain ⟨a', b', d', e'⟩ := h'.good hl first hf c
    exact ⟨a'.trans a.symm, b'.trans b.symm, d'.eq d (fun _ => Iff.rfl), e'.trans e.symm⟩
  · obtain ⟨a, b, d, e⟩ := h.over hl first hf (by omega)
    obtain ⟨a', b', d', e'⟩ := h'.over hl first hf (by omega)
    exact ⟨a'.trans a.symm, b'.trans b.symm, d'.trans d.symm, e'.trans e.symm⟩
theorem ans_small {l : List OpV} {ents : List (List Int)} {lim : Int} {P Q : List (List Int)} {n z : Int} (h : Ln.Ans l ents lim P Q n z) (hl : l.length ≤ 16) (hx : ∃ r, US ents r) (hm : lim ≤ 32768) : P.length ≤ ents.length ∧ Q.length ≤ 32768 := by
  obtain ⟨first, hf⟩ := hx
  by_cases c : ((bfs l lim most 0 (starts first)).length : Int) ≤ lim
  · obtain ⟨a, _⟩ := h.good hl first hf c
    have := h.count hl ⟨first, hf⟩ a
    omega
  · obtain ⟨_, b, d, _⟩ := h.over hl first hf (by omega)
    subst b d
    simp
set_option maxRecDepth 100000 in
set_option maxHeartbeats 8000000 in
theorem walk (w : World) (s0 : Ln.SegP) (u0 : Value) (h0 : OpsOf w u0 s0.ops) (v1 : Value) (l1 : List (List Int)) (h1 : Ln.StsC w v1 l1) (n1 : ∀ s ∈ l1, s.length ≤ 17592186044416) (a2 : Int) (w2 : (Lit.int .i64 a2).wf = true) :
    Calls Try.prog 6 #[.agg #[.int .i64 s0.obj, .int .i64 s0.kind, u0], v1, .int .i64 a2] w fun e w' => e = .returned (.bool true) ∧ Below w.heap.size w w' := by
  obtain ⟨b2, c2⟩ := bounds_i64 w2
  obtain ⟨ao, co, rfl⟩ := h0.len
  have hs1 := h1.sts
  obtain ⟨aE1, cE1, rfl⟩ := hs1.len
  have hbw : Below w.heap.size w (w.alloc (.cells #[.int .i64 s0.obj, .int .i64 s0.kind, .slice ao s0.ops.length co] 24)) := by go_grown
  have hbx := heap_alloc_new w (.cells #[.int .i64 s0.obj, .int .i64 s0.kind, .slice ao s0.ops.length co] 24)
  obtain ⟨W1, hW1⟩ : ∃ W, w.alloc (.cells #[.int .i64 s0.obj, .int .i64 s0.kind, .slice ao s0.ops.length co] 24) = W := ⟨_, rfl⟩
  rw [hW1] at hbw hbx
  have HB1 := Lib.hid hbw
  have HX1 := Lib.hid hbx
  have HO := Lib.hid (h0.on hbw)
  have HE1 := Lib.hid (hs1.on hbw)
  have HEC := Lib.hid (h1.on hbw)
  have HZ1 := Lib.hid n1
  obtain ⟨g0, g1, g2⟩ := seg_cells hbx (Below.refl _ _)
  clear hbw hbx h0 hs1 h1 n1
  have HSM := Lib.hid (small_any (obj := s0.obj) (kind := s0.kind) 6 HO.out HE1.out HZ1.out (by decide))
  by_cases hm : 16 < s0.ops.length
  · have q1 : (16 : Int) < (s0.ops.length : Int) := by omega
    have hnil : Sts W1 (.slice none 0 0) [] := (StsOwn.nil 0 _).reads
    have HQ3 := Lib.hid (search_any (obj := s0.obj) (kind := s0.kind) HO.out hnil (fun s hs => by cases hs) (by simp) a2 (by omega) _ rfl)
    have HM := Lib.hid hm
    clear hm HSM
    go_enter Try.func6, Try.ntmps6
    go_wp2_with fail
    refine HQ3.out.mono ?_
    rintro _ v3 ⟨ve3, vx3, n3, z3, rfl, P3, Q3, hA3, hP3, hQ3, hb3⟩
    obtain ⟨rfl, hp0, hq0, hn0⟩ := hA3.many HM.out
    have HZ3 := Lib.hid (And.intro hp0 (And.intro hq0 hn0))
    have hpl0 : P3.length ≤ 1000000000 := by rw [hp0]; simp
    have hql0 : Q3.length ≤ 1000000000 := by rw [hq0]; simp
    clear hp0 hq0 hn0
    obtain ⟨ae3, ce3, rfl⟩ := hP3.len
    obtain ⟨ax3, cx3, rfl⟩ := hQ3.len
    have hbx3 : Below v3.heap.size v3 (v3.alloc (.cells #[.slice ae3 P3.length ce3, .slice ax3 Q3.length cx3, .int .i64 n3] 33)) := by go_grown
    have hnx3 := heap_alloc_new v3 (.cells #[.slice ae3 P3.length ce3, .slice ax3 Q3.length cx3, .int .i64 n3] 33)
    obtain ⟨W3, hW3⟩ : ∃ W, v3.alloc (.cells #[.slice ae3 P3.length ce3, .slice ax3 Q3.length cx3, .int .i64 n3] 33) = W := ⟨_, rfl⟩
    rw [hW3] at hbx3 hnx3
    have HP3 := Lib.hid (hP3.on hbx3)
    have HR3 := Lib.hid (hQ3.on hbx3)
    have HX3 := Lib.hid hnx3
    have HD3 := Lib.hid (hb3.on hbx3)
    have HB3 := HD3
    have HSA := Lib.hid (same_any (n := n3) (n2 := 0) HP3.out HR3.out (StsOwn.nil 0 _).reads (StsOwn.nil 0 _).reads hpl0 hql0)
    obtain ⟨e0, e1, e2⟩ := sum_cells HX3.out (Below.refl W3.heap.size W3)
    clear hA3 hP3 hQ3 hb3 hbx3 hnx3 HQ3 hpl0 hql0
    go_wp2_with fail
    refine HSA.out.mono ?_
    rintro _ w7 ⟨rfl, hb7⟩
    rw [decide_eq_true HZ3.out.1, decide_eq_true HZ3.out.2.1, decide_eq_true HZ3.out.2.2]
    simp only [Bool.and_self]
    have HB8 := Lib.hid (HB3.out.on hb7)
    clear hb7
    go_wp2_with fail
    refine (Ln.awake_any _).mono ?_
    rintro _ w9 ⟨rfl, hb9⟩
    have HB9 := Lib.hid (HB8.out.on hb9)
    clear hb9
    go_wp2_with fail
    go_returns
    exact ⟨rfl, HB1.out.on HB9.out⟩
  · have q1 : ¬ ((16 : Int) < (s0.ops.length : Int)) := by omega
    clear hm
    go_enter Try.func6, Try.ntmps6
    go_wp2_with fail
    refine HSM.out.mono ?_
    rintro _ w2 ⟨b2, rfl, hsm, hb2⟩
    have HB2 := Lib.hid hb2
    obtain ⟨d0, d1, d2⟩ := seg_cells HX1.out hb2
    have HS := Lib.hid hsm
    clear hb2 hsm g0 g1 g2
    cases b2 with
    | false =>
      go_wp2_with fail
      refine (Ln.awake_any _).mono ?_
      rintro _ w9 ⟨rfl, hb9⟩
      have HB9 := Lib.hid (HB2.out.on hb9)
      clear hb9
      go_wp2_with fail
      go_returns
      exact ⟨rfl, HB1.out.on HB9.out⟩
    | true =>
      have HSP := Lib.hid (HS.out (by first | rfl | trivial))
      have HSH1 := Lib.hid HSP.out.short
      have hl6 : s0.ops.length ≤ 6 := by have := HSP.out.few; omega
      have HUX := Lib.hid (us_exists (sts_okz HE1.out fun s hs => by have := HSH1.out.each s hs; omega))
      have HQ3 := Lib.hid (search_any (obj := s0.obj) (kind := s0.kind) (HO.out.on HB2.out) (HE1.out.on HB2.out) (fun s hs => by have := HSH1.out.each s hs; omega) (by have := HSH1.out.few; omega) a2 (by omega) _ rfl)
      go_wp2_with fail
      refine HQ3.out.mono ?_
      rintro _ v3 ⟨ve3, vx3, n3, z3, rfl, P3, Q3, hA3, hP3, hQ3, hb3⟩
      obtain ⟨ae3, ce3, rfl⟩ := hP3.len
      obtain ⟨ax3, cx3, rfl⟩ := hQ3.len
      have hbx3 : Below v3.heap.size v3 (v3.alloc (.cells #[.slice ae3 P3.length ce3, .slice ax3 Q3.length cx3, .int .i64 n3] 33)) := by go_grown
      have hnx3 := heap_alloc_new v3 (.cells #[.slice ae3 P3.length ce3, .slice ax3 Q3.length cx3, .int .i64 n3] 33)
      obtain ⟨W3, hW3⟩ : ∃ W, v3.alloc (.cells #[.slice ae3 P3.length ce3, .slice ax3 Q3.length cx3, .int .i64 n3] 33) = W := ⟨_, rfl⟩
      rw [hW3] at hbx3 hnx3
      have HA3 := Lib.hid hA3
      have HP3 := Lib.hid (hP3.on hbx3)
      have HR3 := Lib.hid (hQ3.on hbx3)
      have HX3 := Lib.hid hnx3
      have HD3 := Lib.hid (hb3.on hbx3)
      have HB3 := Lib.hid (HB2.out.on HD3.out)
      have HQ4 := Lib.hid (rsearch_any (R := FtS s0.ops) (E := 200) (obj := s0.obj) (kind := s0.kind) (HO.out.on HB3.out) (by omega) (stc_q (HEC.out.on HB3.out)) (rk_kind HSP.out.kinds) (fun s hs => ⟨HSH1.out.each s hs, fun o ho h5 => HSH1.out.rise (by rw [← HSP.out.kinds o ho]; exact h5) s hs⟩) (by omega) (by have := HSH1.out.few; omega) a2 (by omega))
      obtain ⟨d0, d1, d2⟩ := seg_cells HX1.out HB3.out
      clear hA3 hP3 hQ3 hb3 hbx3 hnx3 HQ3
      go_wp2_with fail
      refine HQ4.out.mono ?_
      rintro _ v4 ⟨ve4, vx4, n4, z4, rfl, P4, Q4, hA4, hP4, hQ4, hb4⟩
      obtain ⟨ae4, ce4, rfl⟩ := hP4.len
      obtain ⟨ax4, cx4, rfl⟩ := hQ4.len
      have hbx4 : Below v4.heap.size v4 (v4.alloc (.cells #[.slice ae4 P4.length ce4, .slice ax4 Q4.length cx4, .int .i64 n4] 33)) := by go_grown
      have hnx4 := heap_alloc_new v4 (.cells #[.slice ae4 P4.length ce4, .slice ax4 Q4.length cx4, .int .i64 n4] 33)
      obtain ⟨W4, hW4⟩ : ∃ W, v4.alloc (.cells #[.slice ae4 P4.length ce4, .slice ax4 Q4.length cx4, .int .i64 n4] 33) = W := ⟨_, rfl⟩
      rw [hW4] at hbx4 hnx4
      have HA4 := Lib.hid hA4
      have HP4 := Lib.hid (hP4.on hbx4)
      have HR4 := Lib.hid (hQ4.on hbx4)
      have HX4 := Lib.hid hnx4
      have HD4 := Lib.hid (hb4.on hbx4)
      have HB4 := Lib.hid (HB3.out.on HD4.out)
      obtain ⟨k1, k2, k3, k4⟩ := ans_eq HA3.out HA4.out (Nat.le_trans hl6 (by decide)) HUX.out
      obtain ⟨m1, m2⟩ := ans_small HA3.out (Nat.le_trans hl6 (by decide)) HUX.out (by omega)
      subst k1 k2 k3 k4
      obtain ⟨e0, e1, e2⟩ := sum_cells HX3.out HD4.out
      obtain ⟨f0, f1, f2⟩ := sum_cells HX4.out (Below.refl W4.heap.size W4)
      have HSA := Lib.hid (same_any (n := n4) (n2 := n4) (HP3.out.on HD4.out) (HR3.out.on HD4.out) HP4.out HR4.out (by have := HSH1.out.few; omega) (by omega))
      clear hA4 hP4 hQ4 hb4 hbx4 hnx4 HQ4 m1 m2
      go_wp2_with fail
      refine HSA.out.mono ?_
      rintro _ w7 ⟨rfl, hb7⟩
      simp only [decide_true, Bool.and_self]
      have HB8 := Lib.hid (HB4.out.on hb7)
      clear hb7
      go_wp2_with fail
      refine (Ln.awake_any _).mono ?_
      rintro _ w9 ⟨rfl, hb9⟩
      have HB9 := Lib.hid (HB8.out.on hb9)
      clear hb9
      go_wp2_with fail
      go_returns
      exact ⟨rfl, HB1.out.on HB9.out⟩

set_option maxRecDepth 100000 in
theorem lifted (os : Os) (started : os.Started) (H : Type) (enc : TypeId × Value → H) :
    ReturnsInHanded {} Try.checked os 6 .any (Rows.linSearchesSpec.pre6 enc Try.prog Try.f6 Rows.linSearchesRow.domain false) (Rows.linSearchesSpec.post enc Try.prog Try.f6 false true false false) := by
  refine law_lift (C := Try.checked) own started (by kernel_rfl) Try.func6 laidOut (by kernel_rfl) rfl Try.underlying4 rfl
    (fun ds h => match ds, h with | [_, _, _], _ => rfl)
    (ChangeSpec.witness6 (enc := enc) (C := Try.checked) false ⟨#[], #[.agg #[.int .i64 0, .int .i64 0, .slice none 0 0], .slice none 0 0, .int .i64 0], []⟩ 8 (by kernel_rfl) (by kernel_rfl) (by kernel_rfl) (by kernel_rfl)) ?_
  intro W base args ds ps hval hA hsz
  rw [Try.params6] at hA hval hsz
  obtain ⟨v0, vs0, d0, ds0, p0, q0, hargs, rfl, rfl, h0, r0⟩ := trodAll_cons hA
  obtain ⟨v1, vs1, d1, ds1, p1, q1, rfl, rfl, rfl, h1, r1⟩ := trodAll_cons r0
  obtain ⟨v2, vs2, d2, ds2, p2, q2, rfl, rfl, rfl, h2, r2⟩ := trodAll_cons r1
  obtain ⟨rfl, rfl, rfl⟩ := trodAll_nil r2
  obtain rfl : args = #[v0, v1, v2] := by cases args; simp_all
  obtain ⟨s0, u0, rfl, hl0⟩ := Ln.segp_open (hval 0 24 v0 rfl rfl) h0
  obtain ⟨l1, hl1, hz1⟩ := Ln.sts_open (hval 1 29 v1 rfl rfl) h1
  have n1 := hz1 fun n hn => of_decide_eq_true (List.all_eq_true.1 hsz _ (DataW.weights_mem_each (j := 1) rfl rfl n hn))
  obtain ⟨a2, rfl, rfl, rfl, w2⟩ := open_int Try.underlying3 (hval 2 3 v2 rfl rfl) h2
  exact walk W s0 u0 hl0 v1 l1 hl1 n1 a2 w2

theorem over : Rows.linSearchesRow.holds Try.pinned (OpenSpec.ofChange Rows.linSearchesSpec) :=
  OpenClaim.holds_of_wide 6 Try.f6 rfl rfl rfl rfl rfl rfl rfl ⟨rfl, rfl, rfl, rfl, rfl⟩ rfl rfl rfl rfl rfl (by kernel_rfl) Try.func6 (by kernel_rfl)
    (of_decide_eq_true (by kernel_rfl)) (by unfold Func.isWrapper; first | (rw [if_pos (by decide +kernel)]; kernel_rfl) | (rw [if_neg (by decide +kernel)]; exact ⟨rfl, rfl⟩))
    (fun os started H enc _ => lifted os started H enc)

theorem proved : Rows.LinSearchesSaid :=
  over
end Go.Proofs.Ytppjmmdiglnkfaa.linSearches
