/- An object with a segment of more than sixteen operations has no order told, but that there are too many, and the chapter's example holds: for every operation and every number (of sixteen operations at most the example alone is asked). Conditions: none. -/
import Derived.Test.YtppjmmdiglnkfaaQbo
import Derived.Test.YtppjmmdiglnkfaaLaw
import Derived.BigQuiet
import Derived.Deep.QuietTactic
import Derived.Lib.QuietBelow
import Derived.Deep.DeepCutAuto
import Derived.Deep.CutBlock
namespace Go.Proofs.Ytppjmmdiglnkfaa.orderMany
open Go.ChangeShapes Go.WideShapes Go.ChangeAt Go.RowKit Go.PlainAid
open Go.ChangeMaps (open_string)
open Go.Sort (grow)

theorem own : ownKnob Try.prog.godebug = none := by kernel_rfl
theorem laidOut : laidOutB Try.prog = true := by kernel_rfl
open Ln Cu Od
attribute [local go_sem ↓ high] load_op app_opO
theorem cut_snoc1 {S : List OpV} {o : OpV} (hb : ∀ x ∈ S ++ [o], ∀ y ∈ S ++ [o], befB x y = false) (ih : S ≠ [] → (∀ x ∈ S, ∀ y ∈ S, befB x y = false) → cutL S = [S]) : cutL (S ++ [o]) = [S ++ [o]] := by
  rw [cutL_snoc]
  by_cases h0 : S = []
  · subst h0; rfl
  · rw [ih h0 fun x hx y hy => hb x (by simp [hx]) y (by simp [hy])]
    have : S.all (befB · o) = false := by
      obtain ⟨x, hx⟩ := List.exists_mem_of_ne_nil S h0
      rw [List.all_eq_false]
      exact ⟨x, hx, by rw [hb x (by simp [hx]) o (by simp)]; decide⟩
    exact cutStep_on (init := []) this
theorem cut_one : ∀ (S : List OpV), S ≠ [] → (∀ x ∈ S, ∀ y ∈ S, befB x y = false) → cutL S = [S] := fun S => by
  have key : ∀ R : List OpV, R.reverse ≠ [] → (∀ x ∈ R.reverse, ∀ y ∈ R.reverse, befB x y = false) → cutL R.reverse = [R.reverse] := fun R => by
    induction R with
    | nil => intro h; exact absurd rfl h
    | cons o R ih =>
      intro _ hb
      rw [List.reverse_cons] at hb ⊢
      exact cut_snoc1 hb ih
  have := key S.reverse
  rw [List.reverse_reverse] at this
  exact this
theorem many_least {s : SegV} {lim : Int} {ids : List Int} {ok : Bool} {z : Int} (h : LeastR s lim ids ok z) (hl : 16 < s.ops.length) (hb : ∀ x ∈ s.ops, ∀ y ∈ s.ops, befB x y = false) : z = 34 ∧ ids = [] ∧ ok = false := by
  obtain ⟨S, hs, h⟩ := h
  have hlen := hs.1.length_eq
  have hc := cut_one S (fun e => by rw [e] at hlen; simp at hlen; omega) fun x hx y hy => hb x (hs.1.mem_iff.1 hx) y (hs.1.mem_iff.1 hy)
  rw [hc] at h
  rcases h with ⟨_, h⟩ | ⟨h, _⟩
  · exact h
  · have := h S List.mem_cons_self
    omega
/-- The operations that the law makes. -/
def mk1 (o : OpV) (i : Nat) : OpV := ⟨(i : Int) + 1, o.proc, o.obj, o.kind, o.meth, o.arg, o.sec, true, o.res, 1, 9⟩
def mkL (o : OpV) (k : Nat) : List OpV := (List.range k).map (mk1 o)
theorem mkL_len (o : OpV) (k : Nat) : (mkL o k).length = k := by simp [mkL]
theorem mkL_succ (o : OpV) (k : Nat) : mkL o (k + 1) = mkL o k ++ [mk1 o k] := by simp [mkL, List.range_succ]
theorem mkL_bef (o : OpV) (k : Nat) : ∀ x ∈ mkL o k, ∀ y ∈ mkL o k, befB x y = false := by
  intro x hx y hy
  obtain ⟨i, _, rfl⟩ := List.mem_map.1 hx
  obtain ⟨j, _, rfl⟩ := List.mem_map.1 hy
  simp [befB, mk1]
/-- What stands in the law's operation. -/
def xs (o : OpV) : Nat → OpV
  | 0 => ⟨o.id, o.proc, o.obj, o.kind, o.meth, o.arg, o.sec, true, o.res, 1, 9⟩
  | i + 1 => mk1 o i
theorem mk1_wf {o : OpV} (h : o.Wf) {i : Nat} (hi : i ≤ 100) : (mk1 o i).Wf := by
  obtain ⟨h1, h2, h3, h4, h5, h6, h7, h8, h9, h10⟩ := h
  constructor <;> simp only [mk1] <;> first | assumption | omega
/-- What the law has in memory. -/
structure MnI (w : World) (o : OpV) (i : Nat) (wr : World) : Prop where
  bel : Below w.heap.size w wr
  bx : OpAt wr w.heap.size (xs o i)
  seg : ∃ u, wr.heap[w.heap.size + 1]? = some (.cells #[.int .i64 0, .int .i64 o.kind, u] 24 (0, 0)) ∧ OpsOwn (w.heap.size + 2) wr u (mkL o i)
  big : w.heap.size + 2 ≤ wr.heap.size
set_option maxRecDepth 100000 in
set_option maxHeartbeats 4000000 in
theorem walk (w : World) (o0 : OpV) (w0 : o0.Wf) (a1 : Int) (w1 : (Lit.int .u8 a1).wf = true) :
    Calls Try.prog 5 #[Value.agg #[Value.int .i64 o0.id, Value.int .i64 o0.proc, Value.int .i64 o0.obj, Value.int .i64 o0.kind, Value.int .i64 o0.meth, Value.int .i64 o0.arg, Value.int .i64 o0.sec, Value.bool o0.done, Value.int .i64 o0.res, Value.int .i64 o0.inv, Value.int .i64 o0.ret], .int .u8 a1] w fun e w' => e = .returned (.bool true) ∧ Below w.heap.size w w' := by
  have u0 := w0
  clear u0
  obtain ⟨b1, c1⟩ := bounds_u8 w1
  have hb0 : Below w.heap.size w ((w.alloc (.cells #[Value.int .i64 o0.id, Value.int .i64 o0.proc, Value.int .i64 o0.obj, Value.int .i64 o0.kind, Value.int .i64 o0.meth, Value.int .i64 o0.arg, Value.int .i64 o0.sec, Value.bool true, Value.int .i64 o0.res, Value.int .i64 1, Value.int .i64 9] 43)).alloc (.cells #[.int .i64 0, .int .i64 o0.kind, .slice none 0 0] 24)) := by go_grown
  have hx2 := heap_alloc_new (w.alloc (.cells #[Value.int .i64 o0.id, Value.int .i64 o0.proc, Value.int .i64 o0.obj, Value.int .i64 o0.kind, Value.int .i64 o0.meth, Value.int .i64 o0.arg, Value.int .i64 o0.sec, Value.bool true, Value.int .i64 o0.res, Value.int .i64 1, Value.int .i64 9] 43)) (.cells #[.int .i64 0, .int .i64 o0.kind, .slice none 0 0] 24)
  have hx1 := (Below.heap_alloc (w.alloc (.cells #[Value.int .i64 o0.id, Value.int .i64 o0.proc, Value.int .i64 o0.obj, Value.int .i64 o0.kind, Value.int .i64 o0.meth, Value.int .i64 o0.arg, Value.int .i64 o0.sec, Value.bool true, Value.int .i64 o0.res, Value.int .i64 1, Value.int .i64 9] 43)) (.cells #[.int .i64 0, .int .i64 o0.kind, .slice none 0 0] 24) w.heap.size (by rw [World.size_alloc]; omega)).trans (heap_alloc_new w _)
  rw [World.size_alloc] at hx2
  have HI0 := Lib.hid (show MnI w o0 0 _ from ⟨hb0, hx1, ⟨_, hx2, World.ownsRow_nil _ _ _ _⟩, by rw [World.size_alloc, World.size_alloc]; omega⟩)
  clear hb0 hx1 hx2
  obtain ⟨n, rfl⟩ : ∃ n : Nat, a1 = (n : Int) := ⟨a1.toNat, by omega⟩
  have hn40 : n % 40 < 40 := Nat.mod_lt _ (by decide)
  have t1 : ((n : Int).tmod 40) = ((n % 40 : Nat) : Int) := by rw [Int.tmod_eq_emod_of_nonneg (by omega)]; omega
  have HW0 := Lib.hid w0
  clear w0 w1
  go_enter Try.func5, Try.ntmps5
  go_wp2_with fail
  go_loopw [6] (fun s6 wr => ∃ i : Nat, s6 = .int .i64 i ∧ i ≤ n % 40 ∧ Hid (MnI w o0 i wr)) (fun s6 _ => n % 40 - (intOf s6).toNat)
  case atStart => exact ⟨0, rfl, Nat.zero_le _, HI0⟩
  case round =>
    clear HI0
    obtain ⟨i, rfl, hi, HI⟩ := hrel
    rename World => wq
    by_cases hil : i < n % 40
    · have q1 : (i : Int) < (n : Int) % 40 := by omega
      have q2 : IntKind.i64.wrap ((i : Int) + 1) = (i : Int) + 1 := IntWalk.i64_in _ (by omega)
      obtain ⟨u, hsg, hown⟩ := HI.out.seg
      have hbx := HI.out.bx
      have hbig := HI.out.big
      obtain ⟨c0, hc0⟩ : ∃ c, wq.cell? ⟨w.heap.size, 0, none⟩ = some c := ⟨_, hbx.cell.1⟩
      have f0 := cells_thaw hbx 0
      have hk2 : Keeps (fun k => k = w.heap.size) wq (wq.setCell ⟨w.heap.size, 0, none⟩ (.int .i64 ((i : Int) + 1))) := (Keeps.refl (fun k => k = w.heap.size) wq).setCell (.inl (by rfl)) _
      have hbx2 : OpAt (wq.setCell ⟨w.heap.size, 0, none⟩ (.int .i64 ((i : Int) + 1))) w.heap.size (mk1 o0 i) := by
        have := heap_setCell_same wq w.heap.size 0 _ _ (.int .i64 ((i : Int) + 1)) hbx
        cases i <;> exact this
      have hsg2 := (hk2.block _ (heap_inO hsg) (by omega)).trans hsg
      have hown2 : OpsOwn (w.heap.size + 2) (wq.setCell ⟨w.heap.size, 0, none⟩ (.int .i64 ((i : Int) + 1))) u (mkL o0 i) := World.ownsRow.kept (row := some w.heap.size) hown ⟨rfl, rfl, rfl, hk2.size, fun k hk hne => hk2.block k hk fun e => hne (by rw [e])⟩ (by
        cases hb : u.ownBlock with
        | none => exact .inl rfl
        | some b => exact .inr fun e => by cases e; have := (own_ty hown hb).1; omega)
      obtain ⟨W2, hW2⟩ : ∃ W, wq.setCell ⟨w.heap.size, 0, none⟩ (.int .i64 ((i : Int) + 1)) = W := ⟨_, rfl⟩
      rw [hW2] at hk2 hbx2 hsg2 hown2
      have hsz2 := hk2.size
      have l2 := hbx2.load
      have g2 : W2.cell? ⟨w.heap.size + 1, 2, none⟩ = some u := by rw [cell_of_row _ _ _ _ _ _ hsg2]; rfl
      have hbA : Below W2.heap.size W2 (W2.alloc (.cells #[Value.int .i64 (mk1 o0 i).id, Value.int .i64 (mk1 o0 i).proc, Value.int .i64 (mk1 o0 i).obj, Value.int .i64 (mk1 o0 i).kind, Value.int .i64 (mk1 o0 i).meth, Value.int .i64 (mk1 o0 i).arg, Value.int .i64 (mk1 o0 i).sec, Value.bool (mk1 o0 i).done, Value.int .i64 (mk1 o0 i).res, Value.int .i64 (mk1 o0 i).inv, Value.int .i64 (mk1 o0 i).ret] 43)) := by go_grown
      obtain ⟨g5, cap5, w5, r5, ho5, hg5, _⟩ := ops_lies (hown2.on hbA) (OpAt.box W2 (mk1 o0 i)) (by have := hbA.size; omega) (by rw [mkL_len]; omega)
      have nr : ∀ (T : TypeId) (g : Nat) (cur : Array Value), g < w.heap.size + 2 → W2.heap[g]? = some (Obj.cells cur T (0, 0)) → w5.heap[g]? = some (Obj.cells cur T (0, 0)) := fun T g cur hlt hg => by
        have e1 := (hbA.block g (heap_inO hg)).trans hg
        refine (hg5.block g (heap_inO e1) fun e => ?_).trans e1
        have := (own_ty (hown2.on hbA) e.symm).1
        omega
      have hsg5 := nr _ _ _ (by omega) hsg2
      have hbx5 : OpAt w5 w.heap.size (mk1 o0 i) := nr _ _ _ (by omega) hbx2
      have g5c : w5.cell? ⟨w.heap.size + 1, 2, none⟩ = some u := by rw [cell_of_row _ _ _ _ _ _ hsg5]; rfl
      have f5 := cells_thaw hsg5 2
      have hk6 : Keeps (fun k => k = w.heap.size + 1) w5 (w5.setCell ⟨w.heap.size + 1, 2, none⟩ (.slice (some ⟨g5, 0, none⟩) ((mkL o0 i).length + 1) cap5)) := (Keeps.refl (fun k => k = w.heap.size + 1) w5).setCell (.inl (by rfl)) _
      have hsg6 := heap_setCell_same w5 (w.heap.size + 1) 2 _ _ (.slice (some ⟨g5, 0, none⟩) ((mkL o0 i).length + 1) cap5) hsg5
      have hbx6 : OpAt (w5.setCell ⟨w.heap.size + 1, 2, none⟩ (.slice (some ⟨g5, 0, none⟩) ((mkL o0 i).length + 1) cap5)) w.heap.size (mk1 o0 i) := (hk6.block _ (heap_inO hbx5) (by omega)).trans hbx5
      have hg5s := hg5.size
      have hbAs := hbA.size
      have HN := Lib.hid (show MnI w o0 (i + 1) (w5.setCell ⟨w.heap.size + 1, 2, none⟩ (.slice (some ⟨g5, 0, none⟩) ((mkL o0 i).length + 1) cap5)) from by
        refine ⟨?_, hbx6, ⟨_, hsg6, ?_⟩, by have := hk6.size; omega⟩
        · have e1 : Below w.heap.size wq W2 := hk2.below (fun g e => by omega) (by omega)
          have e3 : Below w.heap.size W2 w5 := (hbA.mono (by omega)).trans ⟨hg5.os, hg5.tape, hg5.output, hg5.size, fun k hk => hg5.block k (by omega) fun e => by have := (own_ty (hown2.on hbA) e.symm).1; omega⟩
          have e4 : Below w.heap.size w5 (w5.setCell ⟨w.heap.size + 1, 2, none⟩ (.slice (some ⟨g5, 0, none⟩) ((mkL o0 i).length + 1) cap5)) := hk6.below (fun g e => by omega) (by omega)
          exact HI.out.bel.trans (e1.trans (e3.trans e4))
        · rw [mkL_succ]
          refine row_keep ho5 hk6 fun g cur e hg => ?_
          rw [e, hsg5] at hg
          exact absurd (Obj.cells.inj (Option.some.inj hg)).2.1 (by decide))

      rw [mkL_len] at r5 HN
      simp only [mk1] at l2 r5
      clear hsg hown hbx hbig hk2 hbx2 hsg2 hown2 hsz2 hbA ho5 hg5 nr hsg5 hbx5 hk6 hsg6 hbx6 hg5s hbAs
      go_wp2_with fail
      refine ⟨⟨i + 1, by simp, by omega, HN⟩, ?_⟩
      simp [intOf] <;> omega
    · obtain rfl : i = n % 40 := by omega
      obtain ⟨u, hsg, hown⟩ := HI.out.seg
      have hrd := hown.reads fun o ho => by
        obtain ⟨j, hj, rfl⟩ := List.mem_map.1 ho
        exact mk1_wf HW0.out (by have := List.mem_range.1 hj; omega)
      obtain ⟨au, cu, rfl, _⟩ := own_len hown
      have hll : ((mkL o0 (n % 40)).length : Int) = (n : Int) % 40 := by rw [mkL_len]; omega
      have g0 : wq.cell? ⟨w.heap.size + 1, 0, none⟩ = some (.int .i64 0) := by rw [cell_of_row _ _ _ _ _ _ hsg]; rfl
      have g1 : wq.cell? ⟨w.heap.size + 1, 1, none⟩ = some (.int .i64 o0.kind) := by rw [cell_of_row _ _ _ _ _ _ hsg]; rfl
      have g2 : wq.cell? ⟨w.heap.size + 1, 2, none⟩ = some (.slice au (mkL o0 (n % 40)).length cu) := by rw [cell_of_row _ _ _ _ _ _ hsg]; rfl
      by_cases hle : n % 40 ≤ 16
      · have q3 : ((mkL o0 (n % 40)).length : Int) ≤ 16 := by rw [mkL_len]; omega
        have HB := Lib.hid HI.out.bel
        clear hsg hown hrd HI
        go_wp2_with fail
        refine (Od.awake_any _).mono ?_
        rintro _ w2 ⟨rfl, hb2⟩
        have HE := Lib.hid (HB.out.on hb2)
        clear hb2
        go_wp2_with fail
        go_returns
        exact ⟨rfl, HE.out⟩
      · have q3 : ¬ ((mkL o0 (n % 40)).length : Int) ≤ 16 := by rw [mkL_len]; omega
        have HL := Lib.hid (least_any (s := ⟨0, o0.kind, mkL o0 (n % 40)⟩) hrd (by simp only [mkL_len]; omega) 9 (by omega) 9 (by decide))
        have HB := Lib.hid HI.out.bel
        have HLE := Lib.hid (show 16 < (mkL o0 (n % 40)).length by rw [mkL_len]; omega)
        clear hsg hown hrd HI
        go_wp2_with fail
        refine HL.out.mono ?_
        rintro _ w2 ⟨vi, ok, z, rfl, ids, hr, hoi, hb2⟩
        obtain ⟨rfl, rfl, rfl⟩ := many_least hr HLE.out (mkL_bef o0 (n % 40))
        obtain ⟨a2, c2, rfl⟩ := hoi.len
        have HB2 := Lib.hid (HB.out.on hb2)
        clear hr hoi hb2 HL
        simp only [List.length_nil]
        go_wp2_with fail
        refine (Od.awake_any _).mono ?_
        rintro _ w3 ⟨rfl, hb3⟩
        have HE := Lib.hid (HB2.out.on hb3)
        clear hb3
        go_wp2_with fail
        go_returns
        exact ⟨rfl, HE.out⟩

set_option maxRecDepth 100000 in
theorem lifted (os : Os) (started : os.Started) (H : Type) (enc : TypeId × Value → H) :
    ReturnsInHanded {} Try.checked os 5 .any (Rows.orderManySpec.pre6 enc Try.prog Try.f5 Rows.orderManyRow.domain false) (Rows.orderManySpec.post enc Try.prog Try.f5 false true false false) := by
  refine law_lift (C := Try.checked) own started (by kernel_rfl) Try.func5 laidOut (by kernel_rfl) rfl Try.underlying4 rfl
    (fun ds h => match ds, h with | [_, _], _ => rfl)
    (ChangeSpec.witness6 (enc := enc) (C := Try.checked) false ⟨#[], #[.agg #[.int .i64 0, .int .i64 0, .int .i64 0, .int .i64 0, .int .i64 0, .int .i64 0, .int .i64 0, .bool false, .int .i64 0, .int .i64 0, .int .i64 0], .int .u8 0], []⟩ 8 (by kernel_rfl) (by kernel_rfl) (by kernel_rfl) (by kernel_rfl)) ?_
  intro W base args ds ps hval hA hsz
  rw [Try.params5] at hA hval hsz
  obtain ⟨v0, vs0, d0, ds0, p0, q0, hargs, rfl, rfl, h0, r0⟩ := trodAll_cons hA
  obtain ⟨v1, vs1, d1, ds1, p1, q1, rfl, rfl, rfl, h1, r1⟩ := trodAll_cons r0
  obtain ⟨rfl, rfl, rfl⟩ := trodAll_nil r1
  obtain rfl : args = #[v0, v1] := by cases args; simp_all
  obtain ⟨o0, rfl, w0⟩ := op_open (hval 0 43 v0 rfl rfl) h0
  obtain ⟨a1, rfl, rfl, rfl, w1⟩ := open_int Try.underlying5 (hval 1 5 v1 rfl rfl) h1
  exact walk W o0 w0 a1 w1

theorem over : Rows.orderManyRow.holds Try.pinned (OpenSpec.ofChange Rows.orderManySpec) :=
  OpenClaim.holds_of_wide 5 Try.f5 rfl rfl rfl rfl rfl rfl rfl ⟨rfl, rfl, rfl, rfl, rfl⟩ rfl rfl rfl rfl rfl (by kernel_rfl) Try.func5 (by kernel_rfl)
    (of_decide_eq_true (by kernel_rfl)) (by unfold Func.isWrapper; first | (rw [if_pos (by decide +kernel)]; kernel_rfl) | (rw [if_neg (by decide +kernel)]; exact ⟨rfl, rfl⟩))
    (fun os started H enc _ => lifted os started H enc)

theorem proved : Rows.OrderManySaid :=
  over
end Go.Proofs.Ytppjmmdiglnkfaa.orderMany
