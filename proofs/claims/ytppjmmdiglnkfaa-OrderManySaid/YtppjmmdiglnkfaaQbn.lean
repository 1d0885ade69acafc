/- Package order: inTime and Valid, of two operations. -/
import Derived.Test.YtppjmmdiglnkfaaQbm
namespace Go.Proofs.Ytppjmmdiglnkfaa
set_option maxRecDepth 100000
open Go.ChangeShapes Go.WideShapes Go.ChangeAt Go.RowKit Go.PlainAid Go.Deep Go.ChangeMaps Go.MapKept
namespace Od
open Ln Cu
attribute [local go_sem ↓ high] load_op store_o app_opO
set_option maxHeartbeats 4000000 in
theorem inTime_two {v : Value} {a b : OpV} {w : World} (h : OpsOf w v [a, b]) (hb : befB b a = false) : Calls Try.prog 50 #[v] w fun e w' => e = .returned (.bool true) ∧ Below w.heap.size w w' := by
  obtain ⟨al, cl, rfl⟩ := h.len
  have H := Lib.hid h
  have HB := Lib.hid hb
  clear h hb
  go_enter Try.func50, Try.ntmps50
  go_wp2_with fail
  go_loopw [3, 4] (fun s3 s4 wr => ∃ i : Nat, s3 = .int .i64 i ∧ 1 ≤ i ∧ i ≤ 2 ∧ (i = 1 → s4 = .int .i64 0) ∧ Hid (Below w.heap.size w wr)) (fun s3 _ _ => 2 - (intOf s3).toNat)
  case atStart => exact ⟨1, rfl, Nat.le_refl _, by omega, fun _ => rfl, Lib.hid (Below.refl _ _)⟩
  case round =>
    obtain ⟨i, rfl, hi1, hi2, h4, HI⟩ := hrel
    rename World => wq
    by_cases h1 : i = 1
    · subst h1
      obtain rfl := h4 rfl
      have hO := H.out.on (HI.out.drew)
      obtain ⟨b0, p, cap, hv, hblt, hwfa, hca⟩ := OpsOf.at (i := 0) hO rfl
      obtain ⟨b0', p', cap', hv', _, hwfb, hcb⟩ := OpsOf.at (i := 1) hO rfl
      obtain ⟨rfl, rfl⟩ : b0 = b0' ∧ p = p' := by rw [hv] at hv'; cases hv'; exact ⟨rfl, rfl⟩
      obtain rfl : al = some ⟨b0, p, none⟩ := by cases hv; rfl
      simp only [Nat.zero_mul, Nat.add_zero, Nat.one_mul] at hca hcb
      have HC := Lib.hid (show ∀ W, Below wq.drew.heap.size wq.drew W → (loadS 43 (.pointer (some ⟨b0, p, none⟩))).run Try.prog W = .ok (Value.agg #[Value.int .i64 a.id, Value.int .i64 a.proc, Value.int .i64 a.obj, Value.int .i64 a.kind, Value.int .i64 a.meth, Value.int .i64 a.arg, Value.int .i64 a.sec, Value.bool a.done, Value.int .i64 a.res, Value.int .i64 a.inv, Value.int .i64 a.ret]) W ∧ (loadS 43 (.pointer (some ⟨b0, p + 11, none⟩))).run Try.prog W = .ok (Value.agg #[Value.int .i64 b.id, Value.int .i64 b.proc, Value.int .i64 b.obj, Value.int .i64 b.kind, Value.int .i64 b.meth, Value.int .i64 b.arg, Value.int .i64 b.sec, Value.bool b.done, Value.int .i64 b.res, Value.int .i64 b.inv, Value.int .i64 b.ret]) W ∧ W.cell? ⟨b0, p + 9, none⟩ = some (.int .i64 a.inv) ∧ W.cell? ⟨b0, p + 11 + 9, none⟩ = some (.int .i64 b.inv) from fun W hb => by
        have ca : ∀ (j : Nat) (u : Value), ([Value.int .i64 a.id, Value.int .i64 a.proc, Value.int .i64 a.obj, Value.int .i64 a.kind, Value.int .i64 a.meth, Value.int .i64 a.arg, Value.int .i64 a.sec, Value.bool a.done, Value.int .i64 a.res, Value.int .i64 a.inv, Value.int .i64 a.ret])[j]? = some u → W.cell? ⟨b0, p + j, none⟩ = some u := fun j u hj => (hb.cell (p := ⟨b0, p + j, none⟩) hblt).trans (hca j u hj)
        have cb : ∀ (j : Nat) (u : Value), ([Value.int .i64 b.id, Value.int .i64 b.proc, Value.int .i64 b.obj, Value.int .i64 b.kind, Value.int .i64 b.meth, Value.int .i64 b.arg, Value.int .i64 b.sec, Value.bool b.done, Value.int .i64 b.res, Value.int .i64 b.inv, Value.int .i64 b.ret])[j]? = some u → W.cell? ⟨b0, p + 11 + j, none⟩ = some u := fun j u hj => (hb.cell (p := ⟨b0, p + 11 + j, none⟩) hblt).trans (hcb j u hj)
        exact ⟨load_cellsO (w := W) (p := p) ca, load_cellsO (w := W) (p := p + 11) cb, ca 9 _ rfl, cb 9 _ rfl⟩)
      obtain ⟨k0, k1, _, _⟩ := HC.out wq.drew (Below.refl _ _)
      have HD := Lib.hid (HI.out.drew)
      clear hO hv hblt hca hcb hv' HI hwfa hwfb
      go_wp2_with fail
      go_region_held3 (fun W => (loadS 43 (.pointer (some ⟨b0, p, none⟩))).run Try.prog W = .ok (Value.agg #[Value.int .i64 a.id, Value.int .i64 a.proc, Value.int .i64 a.obj, Value.int .i64 a.kind, Value.int .i64 a.meth, Value.int .i64 a.arg, Value.int .i64 a.sec, Value.bool a.done, Value.int .i64 a.res, Value.int .i64 a.inv, Value.int .i64 a.ret]) W ∧ (loadS 43 (.pointer (some ⟨b0, p + 11, none⟩))).run Try.prog W = .ok (Value.agg #[Value.int .i64 b.id, Value.int .i64 b.proc, Value.int .i64 b.obj, Value.int .i64 b.kind, Value.int .i64 b.meth, Value.int .i64 b.arg, Value.int .i64 b.sec, Value.bool b.done, Value.int .i64 b.res, Value.int .i64 b.inv, Value.int .i64 b.ret]) W) (go_keep) (first
        | (go_at_call 57; (with_reducible refine (before_any b a _).mono ?_); rintro _ w4 ⟨rfl, hb4⟩; rw [HB.out]; obtain ⟨k0, k1, _, _⟩ := HC.out w4 hb4; have HB4 := Lib.hid hb4; clear hb4)
        | fail)
      all_goals
        have hd4 := HB4.out.drew
        obtain ⟨_, _, m0, m1⟩ := HC.out w4.drew hd4
        have HE := Lib.hid (HD.out.on hd4)
        clear hd4 k0 k1
        by_cases hlt : a.inv < b.inv
        · go_wp2_with fail
          go_region
          go_wp2_with fail
          go_roundw
          case measure => simp [intOf]
          case rel => exact ⟨2, by simp, by omega, by omega, by omega, HE⟩
        · go_wp2_with fail
          go_region
          go_wp2_with fail
          go_roundw
          case measure => simp [intOf]
          case rel => exact ⟨2, by simp, by omega, by omega, by omega, HE⟩
    · obtain rfl : i = 2 := by omega
      go_wp2_with fail
      go_returns
      exact ⟨rfl, HI.out⟩
/-- Numbers struck from a map, one by one. -/
noncomputable def delL (G : Int → Option OpV) (l : List Int) : Int → Option OpV := l.foldl Lm.del G
theorem delL_snoc (G : Int → Option OpV) (l : List Int) (k : Int) : delL G (l ++ [k]) = Lm.del (delL G l) k := by unfold delL; rw [List.foldl_append]; rfl
/-- What Valid has in memory. -/
structure VlI (w : World) (sc : Array Value) (m : Nat) (L : List OpV) (A : List OpV) (i : Nat) (u : Value) (wr : World) : Prop where
  bel : Below w.heap.size w wr
  lt : w.heap.size < m
  mp : Lm.At tOp wr m L.length (delL (firstO L) ((A.take i).map (·.id)))
  row : OpsOwn w.heap.size wr u (A.take i)
  box : wr.heap[w.heap.size]? = some (.cells sc 24 (0, 0))
set_option maxHeartbeats 8000000 in
theorem valid_loop {s : SegV} {vO vi : Value} {A : List OpV} {w : World} (h : OpsOf w vO s.ops) (hl : s.ops.length ≤ 1000) (hA : ∀ i o, A[i]? = some o → o.Wf ∧ delL (firstO s.ops) ((A.take i).map (·.id)) o.id = some o) (hAl : A.length ≤ 1000) (hall : ∀ k, delL (firstO s.ops) (A.map (·.id)) k = none) (hi : IntsOf w vi (A.map (·.id))) (hT : (runsC A (firstC s.kind)).2 = true → ∀ (W : World) (v : Value), OpsOf W v A → Calls Try.prog 50 #[v] W fun e w' => e = .returned (.bool true) ∧ Below W.heap.size W w') :
    Calls Try.prog 26 #[.agg #[.int .i64 s.obj, .int .i64 s.kind, vO], vi] w fun e w' => e = .returned (.bool (runsC A (firstC s.kind)).2) ∧ Below w.heap.size w w' := by
  have hb1 : Below w.heap.size w (w.alloc (.cells #[.int .i64 s.obj, .int .i64 s.kind, vO] 24)) := by go_grown
  have hx1 := heap_alloc_new w (.cells #[.int .i64 s.obj, .int .i64 s.kind, vO] 24)
  have hs1 := World.size_alloc w (.cells #[.int .i64 s.obj, .int .i64 s.kind, vO] 24)
  obtain ⟨W1, hW1⟩ : ∃ W, w.alloc (.cells #[.int .i64 s.obj, .int .i64 s.kind, vO] 24) = W := ⟨_, rfl⟩
  rw [hW1] at hb1 hx1 hs1
  have c2 : W1.cell? ⟨w.heap.size, 2, none⟩ = some vO := by rw [cell_of_row _ _ _ _ _ _ hx1]; rfl
  have HF := Lib.hid (firsts_any (h.on hb1) hl)
  obtain ⟨ai, ci, rfl⟩ : ∃ a c, vi = .slice a A.length c := by
    rcases hi with ⟨h0, ao, cap, rfl⟩ | ⟨b, o, cap, rfl, _⟩
    · exact ⟨ao, cap, by rw [show A.length = 0 by rw [← List.length_map (f := fun x : OpV => x.id), h0]; rfl]⟩
    · exact ⟨_, _, by rw [List.length_map]⟩
  have HW1 := Lib.hid hW1
  have HB1 := Lib.hid (And.intro hb1 (And.intro hx1 hs1))
  have HI := Lib.hid hi
  have HA := Lib.hid hA
  have HALL := Lib.hid hall
  have HT := Lib.hid hT
  clear h hb1 hx1 hs1 hi hA hall hT hW1
  go_enter Try.func26, Try.ntmps26
  go_wp2_with fail
  rw [HW1.out]
  refine HF.out.mono ?_
  rintro _ w1 ⟨rfl, hf⟩
  have HI0 := Lib.hid (show VlI w #[.int .i64 s.obj, .int .i64 s.kind, vO] W1.heap.size s.ops A 0 (.slice none 0 0) w1 from by
    obtain ⟨y1, y2, y3⟩ := HB1.out
    obtain ⟨G, hG, hGo⟩ := hf.mp
    refine ⟨y1.on hf.bel, by omega, ?_, World.ownsRow_nil _ _ _ _, (hf.bel.block _ (heap_inO y2)).trans y2⟩
    have e : G = delL (firstO s.ops) ((A.take 0).map (·.id)) := funext fun k => by rw [hGo, List.take_length]; rfl
    rw [← e]
    exact hG)
  have hb0 := HB1.out.1.on hf.bel
  have HI' := Lib.hid (HI.out)
  clear hf hb0 HF c2 HI'
  obtain ⟨m, hm⟩ : ∃ m, W1.heap.size = m := ⟨_, rfl⟩
  rw [hm] at HI0 ⊢
  clear hm HB1 HW1
  go_wp2_with fail
  go_loopw [6, 20] (fun s6 s20 wr => ∃ i : Nat, s20 = .int .i64 i ∧ i ≤ A.length ∧ Hid (VlI w #[.int .i64 s.obj, .int .i64 s.kind, vO] m s.ops A i s6 wr)) (fun _ s20 _ => A.length - (intOf s20).toNat)
  case atStart => exact ⟨0, rfl, Nat.zero_le _, HI0⟩
  case round =>
    clear HI0
    obtain ⟨i, rfl, hi, HJ⟩ := hrel
    rename World => wq
    by_cases hil : i < A.length
    · have q1 : (i : Int) < (A.length : Int) := by omega
      have q2 : IntKind.i64.wrap ((i : Int) + 1) = (i : Int) + 1 := IntWalk.i64_in _ (by omega)
      have q3 : (0 : Int) ≤ i := by omega
      obtain ⟨o, hok⟩ : ∃ o, A[i]? = some o := ⟨_, List.getElem?_eq_getElem hil⟩
      obtain ⟨hwf, hgo⟩ := HA.out i o hok
      have hJ := HJ.out
      have hrd := IntsOf.on HI.out hJ.bel
      obtain ⟨bi, oi, capi, hvi, hlti, hci⟩ : ∃ b o' c, (Value.slice ai A.length ci) = .slice (some ⟨b, o', none⟩) A.length c ∧ b < wq.heap.size ∧ wq.cell? ⟨b, o' + i, none⟩ = some (.int .i64 o.id) := by
        rcases hrd with ⟨h0, _⟩ | ⟨b, o', cap, e, hlt, _, _, hr⟩
        · have := congrArg List.length h0
          rw [List.length_map, List.length_nil] at this
          omega
        · refine ⟨b, o', cap, by rw [e, List.length_map], hlt, (hr i o.id ?_).2⟩
          rw [List.getElem?_map, hok]; rfl
      obtain ⟨rfl, _, rfl⟩ := Value.slice.inj hvi
      have lk := hJ.mp.look tOp_good o.id hwf.id true
      rw [hgo] at lk
      simp only [if_true] at lk
      have lk2 : (Instr.lookup 90 (.map (some m)) (.int .i64 o.id) true).run Try.prog wq = .ok (.tuple #[Value.agg #[Value.int .i64 o.id, Value.int .i64 o.proc, Value.int .i64 o.obj, Value.int .i64 o.kind, Value.int .i64 o.meth, Value.int .i64 o.arg, Value.int .i64 o.sec, Value.bool o.done, Value.int .i64 o.res, Value.int .i64 o.inv, Value.int .i64 o.ret], .bool true]) wq := lk
      have st := store_op_new wq (#[Value.int .i64 0, Value.int .i64 0, Value.int .i64 0, Value.int .i64 0, Value.int .i64 0, Value.int .i64 0, Value.int .i64 0, Value.bool false, Value.int .i64 0, Value.int .i64 0, Value.int .i64 0]) rfl o
      have hbA : Below wq.heap.size wq (wq.alloc (.cells #[Value.int .i64 o.id, Value.int .i64 o.proc, Value.int .i64 o.obj, Value.int .i64 o.kind, Value.int .i64 o.meth, Value.int .i64 o.arg, Value.int .i64 o.sec, Value.bool o.done, Value.int .i64 o.res, Value.int .i64 o.inv, Value.int .i64 o.ret] 43)) := by go_grown
      have hop := OpAt.box wq o
      obtain ⟨W2, hW2⟩ : ∃ W, wq.alloc (.cells #[Value.int .i64 o.id, Value.int .i64 o.proc, Value.int .i64 o.obj, Value.int .i64 o.kind, Value.int .i64 o.meth, Value.int .i64 o.arg, Value.int .i64 o.sec, Value.bool o.done, Value.int .i64 o.res, Value.int .i64 o.inv, Value.int .i64 o.ret] 43) = W := ⟨_, rfl⟩
      rw [hW2] at st hbA hop
      obtain ⟨w3, r3, hG3, hk3⟩ := (hJ.mp.on hbA).drop tOp_good o.id hwf.id 0
      have r3' : (Builtin.delete_ #[90, 3] 0 #[.map (some m), .int .i64 o.id]).run Try.prog W2 = .ok (.tuple #[]) w3 := r3
      obtain ⟨_, _, hmb, _⟩ := (hJ.mp.on hbA)
      have nm : ∀ T g cur, g = m → W2.heap[g]? = some (.cells cur T (0, 0)) → False := fun T g cur e hg => by rw [e, hmb] at hg; cases hg
      have hop3 : OpAt w3 wq.heap.size o := (hk3.block _ (heap_inO hop) fun e => nm _ _ _ e hop).trans hop
      have hrow3 : OpsOwn w.heap.size w3 _ (A.take i) := row_keep (hJ.row.on hbA) hk3 (nm _)
      have hbx3 := (hk3.block _ (heap_inO ((hbA.block _ (heap_inO hJ.box)).trans hJ.box)) fun e => nm _ _ _ e ((hbA.block _ (heap_inO hJ.box)).trans hJ.box)).trans ((hbA.block _ (heap_inO hJ.box)).trans hJ.box)
      have hbe3 : Below w.heap.size w w3 := (hJ.bel.on hbA).trans (hk3.below (fun g e => by rw [e]; exact Nat.le_of_lt hJ.lt) (hJ.bel.on hbA).size)
      -- the append
      have hbB : Below w3.heap.size w3 (w3.alloc (.cells #[Value.int .i64 o.id, Value.int .i64 o.proc, Value.int .i64 o.obj, Value.int .i64 o.kind, Value.int .i64 o.meth, Value.int .i64 o.arg, Value.int .i64 o.sec, Value.bool o.done, Value.int .i64 o.res, Value.int .i64 o.inv, Value.int .i64 o.ret] 43)) := by go_grown
      obtain ⟨g5, cap5, w5, r5, ho5, hg5, _⟩ := ops_lies (hrow3.on hbB) (OpAt.box w3 o) (hbe3.on hbB).size (by rw [List.length_take]; omega)
      have l3 := hop3.load
      have htk : A.take (i + 1) = A.take i ++ [o] := by rw [List.take_add_one, hok]; rfl
      have hlt2 : (A.take i).length = i := by rw [List.length_take]; omega
      have nr : ∀ (T : TypeId) (g : Nat) (cur : Array Value), T ≠ 43 → w3.heap[g]? = some (Obj.cells cur T (0, 0)) → w5.heap[g]? = some (Obj.cells cur T (0, 0)) := fun T g cur hT hg => by
        have e1 := (hbB.block g (heap_inO hg)).trans hg
        refine (hg5.block g (heap_inO e1) fun e => ?_).trans e1
        obtain ⟨_, cur', e2⟩ := own_ty (hrow3.on hbB) e.symm
        exact hT (ty_ne e1 e2)
      have hG5 : Lm.At tOp w5 m s.ops.length (delL (firstO s.ops) ((A.take (i + 1)).map (·.id))) := by
        rw [htk, List.map_append]
        show Lm.At tOp w5 m _ (delL _ (_ ++ [o.id]))
        rw [delL_snoc]
        refine (hG3.on hbB).of (hg5.block m (hG3.on hbB).lt fun e => ?_)
        obtain ⟨_, cur', e2⟩ := own_ty (hrow3.on hbB) e.symm
        obtain ⟨es, ck, e3, _⟩ := hG3.on hbB
        rw [e3] at e2; cases e2
      have HN := Lib.hid (show VlI w #[.int .i64 s.obj, .int .i64 s.kind, vO] m s.ops A (i + 1) (.slice (some ⟨g5, 0, none⟩) ((A.take i).length + 1) cap5) w5 from
        ⟨(hbe3.on hbB).trans ⟨hg5.os, hg5.tape, hg5.output, hg5.size, fun k hk => hg5.block k (Nat.lt_of_lt_of_le hk (hbe3.on hbB).size) fun e => by have := (own_ty (hrow3.on hbB) e.symm).1; omega⟩, hJ.lt, hG5, by rw [htk]; exact ho5, nr _ _ _ (by decide) hbx3⟩)
      rw [hlt2] at HN
      clear hJ hrd hvi hlti lk hbA hop hk3 hmb nm hop3 hrow3 hbx3 hbe3 hbB ho5 hg5 htk nr hG5 hG3 r3
      go_wp2_with fail
      go_roundw
      case measure => simp [intOf] <;> omega
      case rel => exact ⟨i + 1, by simp, by omega, HN⟩
    · obtain rfl : i = A.length := by omega
      have q1 : ¬ ((A.length : Int) < (A.length : Int)) := by omega
      have hJ := HJ.out
      have hmp := hJ.mp
      rw [List.take_length] at hmp
      obtain ⟨es, ck, hmb, his⟩ := hmp
      obtain rfl := tOp_none his HALL.out
      obtain ⟨w6, r6, hrg, hgr, hs6⟩ := World.ownsMap.range (w := wq) (P := Try.prog) (k := 3) (R := Lm.R tOp) (b := m) (n := 0) (D := .map []) (t := 90) ⟨#[], ck, hmb, his.fit, Nat.le_refl _, rfl⟩ tOp_good.keyed tOp_good.mtOf
      have hb6 : Below wq.heap.size wq w6 := ⟨hgr.os, hgr.tape, hgr.output, hgr.size, fun k hk => hgr.block k hk (by simp)⟩
      have r7 : ∀ ty, (Instr.next (.pointer (some ⟨wq.heap.size, 0, none⟩)) false ty).run Try.prog w6 = .ok (.tuple #[.bool false]) w6 := fun ty => by
        rcases hrg.next tOp_good.keyed ty with ⟨_, _, h⟩ | ⟨_, _, _, _, _, _, _, hl, _⟩
        · exact h
        · simp [Maps.has] at hl
      have hrow : OpsOwn w.heap.size w6 u6 A := by have := hJ.row.on hb6; rw [List.take_length] at this; exact this
      have c1 : w6.cell? ⟨w.heap.size, 1, none⟩ = some (.int .i64 s.kind) := by rw [cell_of_row _ _ _ _ _ _ ((hb6.block _ (heap_inO hJ.box)).trans hJ.box)]; rfl
      have HROW := Lib.hid (hrow.reads fun o ho => by
        obtain ⟨j, hj⟩ := List.getElem?_of_mem ho
        exact (HA.out j o hj).1)
      have HB6 := Lib.hid (hJ.bel.on hb6)
      obtain ⟨a6, p6, rfl, _⟩ := own_len hrow
      clear hJ hmb his hrg hgr hs6 hb6 hrow HJ HI
      go_wp2_with fail
      go_loopw [41] (fun _ wr => wr = w6) (fun _ _ => 0)
      case atStart => rfl
      case round =>
        obtain rfl := hrel
        go_wp2_with fail
        refine (mfirst_any s.kind _).mono ?_
        rintro _ w7 ⟨v7, rfl, hv7, hb7⟩
        have HR := Lib.hid (runs_any hv7 (HROW.out.on hb7) (by have := first_len s.kind; omega))
        have HB7 := Lib.hid (HB6.out.on hb7)
        have HROW7 := Lib.hid (HROW.out.on hb7)
        obtain ⟨a7, c7, rfl⟩ : ∃ a c, v7 = .slice a (firstC s.kind).length c := by
          rcases hv7 with ⟨h0, ao, cap, rfl⟩ | ⟨b, o, cap, rfl, _⟩
          · exact ⟨ao, cap, by rw [h0]; rfl⟩
          · exact ⟨_, _, rfl⟩
        clear hv7 hb7 r6 r7 c1
        go_wp2_with fail
        refine HR.out.mono ?_
        rintro _ w8 ⟨v8, rfl, ho8, hb8⟩
        have HB8 := Lib.hid (HB7.out.on hb8)
        have HROW8 := Lib.hid (HROW7.out.on hb8)
        obtain ⟨a8, c8, rfl⟩ := ho8.len
        clear ho8 hb8 HR
        cases hr : (runsC A (firstC s.kind)).2 with
        | true =>
          have HTT := Lib.hid (HT.out hr w8 _ HROW8.out)
          have HRT := Lib.hid hr
          clear hr
          go_wp2_with fail
          refine HTT.out.mono ?_
          rintro _ w9 ⟨rfl, hb9⟩
          have HE := Lib.hid (HB8.out.on hb9)
          clear hb9
          go_wp2_with fail
          go_returns
          exact ⟨by rw [HRT.out]; rfl, HE.out⟩
        | false =>
          have HRT := Lib.hid hr
          clear hr
          go_wp2_with fail
          go_returns
          exact ⟨by rw [HRT.out]; rfl, HB8.out⟩
/-- Of two operations of different numbers, in any order. -/
theorem valid_two {s : SegV} {vO vi : Value} {p q a b : OpV} {w : World} (hs : s.ops = [p, q]) (h : OpsOf w vO [p, q]) (hne : p.id ≠ q.id) (hab : (a = p ∧ b = q) ∨ (a = q ∧ b = p)) (hi : IntsOf w vi [a.id, b.id]) (hb : (runsC [a, b] (firstC s.kind)).2 = true → befB b a = false) :
    Calls Try.prog 26 #[.agg #[.int .i64 s.obj, .int .i64 s.kind, vO], vi] w fun e w' => e = .returned (.bool (runsC [a, b] (firstC s.kind)).2) ∧ Below w.heap.size w w' := by
  have hp : firstO [p, q] p.id = some p := by simp [firstO]
  have hq : firstO [p, q] q.id = some q := by simp [firstO, hne]
  have ho : ∀ k, k ≠ p.id → k ≠ q.id → firstO [p, q] k = none := fun k h1 h2 => by simp [firstO, Ne.symm h1, Ne.symm h2]
  have hwf := h.2
  rw [← hs] at h hp hq ho
  refine valid_loop (A := [a, b]) h (by rw [hs]; simp) (fun i o hio => ?_) (by simp) (fun k => ?_) hi (fun hr W v hv => inTime_two hv (hb hr))
  · rcases i with _ | _ | i
    · obtain rfl : a = o := by simpa using hio
      rcases hab with ⟨rfl, rfl⟩ | ⟨rfl, rfl⟩
      · exact ⟨hwf _ (by simp), hp⟩
      · exact ⟨hwf _ (by simp), hq⟩
    · obtain rfl : b = o := by simpa using hio
      rcases hab with ⟨rfl, rfl⟩ | ⟨rfl, rfl⟩
      · refine ⟨hwf _ (by simp), ?_⟩
        show Lm.del _ _ _ = _
        rw [Lm.del_other _ _ (Ne.symm hne)]
        exact hq
      · refine ⟨hwf _ (by simp), ?_⟩
        show Lm.del _ _ _ = _
        rw [Lm.del_other _ _ hne]
        exact hp
    · simp at hio
  · show Lm.del (Lm.del _ _) _ k = none
    by_cases h1 : k = b.id
    · subst h1
      exact Lm.del_same _ _
    · rw [Lm.del_other _ _ h1]
      by_cases h2 : k = a.id
      · subst h2
        exact Lm.del_same _ _
      · rw [Lm.del_other _ _ h2]
        rcases hab with ⟨rfl, rfl⟩ | ⟨rfl, rfl⟩
        · exact ho k h2 h1
        · exact ho k h1 h2
end Od
end Go.Proofs.Ytppjmmdiglnkfaa
