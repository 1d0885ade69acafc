/- Package model: contracts of Runs, First; lists of operations in memory. -/
import Derived.Test.YtkdaghflonppfaaMoG
namespace Go.Proofs.Ytkdaghflonppfaa
set_option maxRecDepth 100000
open Go.ChangeShapes Go.WideShapes Go.ChangeAt Go.RowKit Go.PlainAid Go.Deep

attribute [local go_sem ↓ high] load_op
theorem store_o (p v : Value) : Instr.storeAt 24 p v = storeS 24 p v := rfl
attribute [local go_sem ↓ high] store_o
theorem one11 (o : OpV) : (#[Value.int .i64 o.id, Value.int .i64 o.proc, Value.int .i64 o.obj, Value.int .i64 o.kind, Value.int .i64 o.meth, Value.int .i64 o.arg, Value.int .i64 o.sec, Value.bool o.done, Value.int .i64 o.res, Value.int .i64 o.inv, Value.int .i64 o.ret]).all (·.oneCell') = true := by simp [Value.oneCell']
theorem store_op {w : World} {b : Nat} {c : Array Value} (h : w.heap[b]? = some (.cells c 24 (0, 0))) (hc : c.size = 11) (o : OpV) :
    (storeS 24 (.pointer (some ⟨b, 0, none⟩)) (Value.agg #[Value.int .i64 o.id, Value.int .i64 o.proc, Value.int .i64 o.obj, Value.int .i64 o.kind, Value.int .i64 o.meth, Value.int .i64 o.arg, Value.int .i64 o.sec, Value.bool o.done, Value.int .i64 o.res, Value.int .i64 o.inv, Value.int .i64 o.ret])).run Try.prog w = .ok () (w.setRow b #[Value.int .i64 o.id, Value.int .i64 o.proc, Value.int .i64 o.obj, Value.int .i64 o.kind, Value.int .i64 o.meth, Value.int .i64 o.arg, Value.int .i64 o.sec, Value.bool o.done, Value.int .i64 o.res, Value.int .i64 o.inv, Value.int .i64 o.ret]) := by
  have hsz : (Try.prog.info? 24).map (·.size) = some 11 := by kernel_rfl
  have h := run_storeVar_row (P := Try.prog) w b 24 24 c #[Value.int .i64 o.id, Value.int .i64 o.proc, Value.int .i64 o.obj, Value.int .i64 o.kind, Value.int .i64 o.meth, Value.int .i64 o.arg, Value.int .i64 o.sec, Value.bool o.done, Value.int .i64 o.res, Value.int .i64 o.inv, Value.int .i64 o.ret] h (by rw [hsz]; rfl) hc (one11 o)
  unfold storeS
  simp only [Instr.storeAt, Instr.sureAddr, Sem.run_bind, Sem.run_pure, Result.andThen_ok]
  exact h
theorem store_op_new (w : World) (c : Array Value) (hc : c.size = 11) (o : OpV) :
    (storeS 24 (.pointer (some ⟨w.heap.size, 0, none⟩)) (Value.agg #[Value.int .i64 o.id, Value.int .i64 o.proc, Value.int .i64 o.obj, Value.int .i64 o.kind, Value.int .i64 o.meth, Value.int .i64 o.arg, Value.int .i64 o.sec, Value.bool o.done, Value.int .i64 o.res, Value.int .i64 o.inv, Value.int .i64 o.ret])).run Try.prog (w.alloc (.cells c 24)) = .ok () (w.alloc (.cells #[Value.int .i64 o.id, Value.int .i64 o.proc, Value.int .i64 o.obj, Value.int .i64 o.kind, Value.int .i64 o.meth, Value.int .i64 o.arg, Value.int .i64 o.sec, Value.bool o.done, Value.int .i64 o.res, Value.int .i64 o.inv, Value.int .i64 o.ret] 24)) := by
  rw [store_op (heap_alloc_new w _) hc, setRow_alloc]

/-- The operations that a slice reads as. -/
def OpsOf (w : World) (v : Value) (l : List OpV) : Prop :=
  ((l = [] ∧ ∃ ao cap, v = .slice ao 0 cap) ∨ ∃ b p cap, v = .slice (some ⟨b, p, none⟩) l.length cap ∧ b < w.heap.size ∧ 0 < l.length ∧ ∀ (i : Nat) (o : OpV), l[i]? = some o → ∀ (j : Nat) (u : Value), (#[Value.int .i64 o.id, Value.int .i64 o.proc, Value.int .i64 o.obj, Value.int .i64 o.kind, Value.int .i64 o.meth, Value.int .i64 o.arg, Value.int .i64 o.sec, Value.bool o.done, Value.int .i64 o.res, Value.int .i64 o.inv, Value.int .i64 o.ret].toList)[j]? = some u → w.cell? ⟨b, p + i * 11 + j, none⟩ = some u) ∧
  ∀ o ∈ l, o.Wf
theorem OpsOf.on {w w' : World} {v : Value} {l : List OpV} (h : OpsOf w v l) (hb : Below w.heap.size w w') : OpsOf w' v l := by
  refine ⟨?_, h.2⟩
  rcases h.1 with h | ⟨b, p, cap, hv, hlt, h0, hr⟩
  · exact .inl h
  · exact .inr ⟨b, p, cap, hv, Nat.lt_of_lt_of_le hlt hb.size, h0, fun i o hi j u hj => (hb.cell (p := ⟨b, p + i * 11 + j, none⟩) hlt).trans (hr i o hi j u hj)⟩
theorem OpsOf.len {w : World} {v : Value} {l : List OpV} (h : OpsOf w v l) : ∃ ao cap, v = .slice ao l.length cap := by
  rcases h.1 with ⟨rfl, ao, cap, rfl⟩ | ⟨b, p, cap, rfl, _⟩
  · exact ⟨ao, cap, rfl⟩
  · exact ⟨_, cap, rfl⟩
theorem OpsOf.at {w : World} {v : Value} {l : List OpV} (h : OpsOf w v l) {i : Nat} {o : OpV} (hi : l[i]? = some o) : ∃ b p cap, v = .slice (some ⟨b, p, none⟩) l.length cap ∧ b < w.heap.size ∧ o.Wf ∧ ∀ (j : Nat) (u : Value), (#[Value.int .i64 o.id, Value.int .i64 o.proc, Value.int .i64 o.obj, Value.int .i64 o.kind, Value.int .i64 o.meth, Value.int .i64 o.arg, Value.int .i64 o.sec, Value.bool o.done, Value.int .i64 o.res, Value.int .i64 o.inv, Value.int .i64 o.ret].toList)[j]? = some u → w.cell? ⟨b, p + i * 11 + j, none⟩ = some u := by
  rcases h.1 with ⟨rfl, _⟩ | ⟨b, p, cap, rfl, hlt, _, hr⟩
  · simp at hi
  · exact ⟨b, p, cap, rfl, hlt, h.2 o (List.mem_of_getElem? hi), hr i o hi⟩
/-- Steps, one after the other. -/
noncomputable def runsC : List OpV → List Int → List Int × Bool
  | [], L => (L, true)
  | o :: r, L => if (stepC o L).2 = true then runsC r (stepC o L).1 else ([], false)
theorem runsC_yes {o : OpV} {r : List OpV} {L L' : List Int} (h : stepC o L = (L', true)) : runsC (o :: r) L = runsC r L' := by rw [runsC, h]; rfl
theorem runsC_no {o : OpV} {r : List OpV} {L L' : List Int} (h : stepC o L = (L', false)) : runsC (o :: r) L = ([], false) := by rw [runsC, h]; rfl
theorem doC_len (o : OpV) (L : List Int) : (doC o L).1.length ≤ L.length + 1 := by
  unfold doC
  split
  · unfold regC noA; split <;> (repeat' split) <;> simp
  split
  · unfold ctrC noA; split <;> (repeat' split) <;> simp
  split
  · unfold queC noA; split <;> (repeat' split) <;> (try simp) <;> omega
  split
  · unfold stkC noA; split <;> (repeat' split) <;> (try simp) <;> omega
  split
  · unfold setC noA
    have h1 : (insL L o.arg).length = L.length + 1 := by unfold insL; exact ins_len List.countP_le_length _
    have h2 : (delL L o.arg).length ≤ L.length + 1 := by unfold delL; rw [List.length_append, List.length_take, List.length_drop]; omega
    split <;> (repeat' split) <;> (try simp) <;> (try omega)
  split
  · unfold mtxC noA; split <;> (repeat' split) <;> simp
  · simp [noA]
theorem stepC_len (o : OpV) (L : List Int) : (stepC o L).1.length ≤ L.length + 1 := by
  unfold stepC
  split
  · exact doC_len o L
  · simp
theorem drop_get {α : Type} {l : List α} {k : Nat} {x : α} (h : l[k]? = some x) : l.drop k = x :: l.drop (k + 1) := by
  obtain ⟨hk, rfl⟩ := List.getElem?_eq_some_iff.1 h
  exact List.drop_eq_getElem_cons hk
set_option maxHeartbeats 4000000 in
theorem runs_any {v vl : Value} {L : List Int} {l : List OpV} {w : World} (h : IntsOf w v L) (hl : OpsOf w vl l) (hs : L.length + l.length ≤ 17592186044414) : Calls Try.prog 16 #[v, vl] w fun e w' => ∃ v', e = .returned (.tuple #[v', .bool (runsC l L).2]) ∧ OwnI w.heap.size w' v' (runsC l L).1 ∧ Below w.heap.size w w' := by
  obtain ⟨al, cl, rfl⟩ := hl.len
  have HL := Lib.hid hl
  have HS := Lib.hid hs
  have H := Lib.hid h
  clear hl hs h
  go_enter Try.func16, Try.ntmps16
  go_wp2_with fail
  refine (clone_any v L _ H.out (by have := HS.out; omega)).mono ?_
  rintro _ w1 ⟨v1, rfl, ho1, hb1⟩
  have HO1 := Lib.hid ho1
  have HB1 := Lib.hid hb1
  clear ho1 hb1
  go_wp2_with fail
  go_loopw [6, 15] (fun s6 s15 wr => ∃ (k : Nat) (L' : List Int), s15 = .int .i64 k ∧ k ≤ l.length ∧ Hid (OwnI w.heap.size wr s6 L' ∧ runsC (l.drop k) L' = runsC l L ∧ L'.length ≤ L.length + k ∧ Below w.heap.size w wr)) (fun _ s15 _ => l.length - (intOf s15).toNat)
  case atStart => exact ⟨0, L, rfl, Nat.zero_le _, Lib.hid ⟨HO1.out, rfl, Nat.le_refl _, HB1.out⟩⟩
  case round =>
    obtain ⟨k, L', rfl, hk, HR⟩ := hrel
    by_cases hkl : k < l.length
    · have q1 : decide ((k : Int) < (l.length : Int)) = true := decide_eq_true (by omega)
      have q2 : (k : Int) < (l.length : Int) := by omega
      have q3 : IntKind.i64.wrap ((k : Int) + 1) = (k : Int) + 1 := IntWalk.i64_in _ (by have := HS.out; omega)
      have hg : l[k]? = some l[k] := List.getElem?_eq_getElem hkl
      obtain ⟨o, ho⟩ : ∃ o, l[k] = o := ⟨_, rfl⟩
      rw [ho] at hg
      have HG := Lib.hid hg
      obtain ⟨b, p, cap, hv, hlt, hwf, hc⟩ := OpsOf.at (HL.out.on HR.out.2.2.2) hg
      have e1 : al = some ⟨b, p, none⟩ := by cases hv; rfl
      subst e1
      have l1 := load_cells (p := p + k * 11) hc
      have s1 := store_op_new wr (#[Value.int .i64 0, Value.int .i64 0, Value.int .i64 0, Value.int .i64 0, Value.int .i64 0, Value.int .i64 0, Value.int .i64 0, Value.bool false, Value.int .i64 0, Value.int .i64 0, Value.int .i64 0]) rfl o
      have HK := Lib.hid hkl
      have HW := Lib.hid hwf
      obtain ⟨W2, hW2⟩ : ∃ W2, wr.alloc (.cells #[Value.int .i64 o.id, Value.int .i64 o.proc, Value.int .i64 o.obj, Value.int .i64 o.kind, Value.int .i64 o.meth, Value.int .i64 o.arg, Value.int .i64 o.sec, Value.bool o.done, Value.int .i64 o.res, Value.int .i64 o.inv, Value.int .i64 o.ret] 24) = W2 := ⟨_, rfl⟩
      have hb2 : Below wr.heap.size wr W2 := by rw [← hW2]; go_grown
      have l2 : (loadS 24 (.pointer (some ⟨wr.heap.size, 0, none⟩))).run Try.prog W2 = .ok (Value.agg #[Value.int .i64 o.id, Value.int .i64 o.proc, Value.int .i64 o.obj, Value.int .i64 o.kind, Value.int .i64 o.meth, Value.int .i64 o.arg, Value.int .i64 o.sec, Value.bool o.done, Value.int .i64 o.res, Value.int .i64 o.inv, Value.int .i64 o.ret]) W2 := by rw [← hW2]; exact (OpAt.box wr o).load
      have HB2 := Lib.hid hb2
      rw [hW2] at s1
      have HO2 := Lib.hid (HR.out.1.on hb2)
      rcases hA : stepC o L' with ⟨L2, bb⟩
      have HA := Lib.hid hA
      clear hA hb2 hv hc hwf hg hk hkl hlt ho hW2
      go_wp2_with fail
      refine (step_any o HW.out HO2.out (Nat.le_trans HR.out.2.2.2.size HB2.out.size) (by have := HR.out.2.2.1; have := HS.out; have := HK.out; omega)).mono ?_
      rintro _ w3 ⟨v3, rfl, ho3, hm3⟩
      rw [HA.out] at ho3 ⊢
      have HO3 := Lib.hid ho3
      have HB3 := Lib.hid ((HR.out.2.2.2.on HB2.out).trans (hm3.below HO2.out (Nat.le_trans HR.out.2.2.2.size HB2.out.size)))
      clear ho3 hm3
      cases bb
      · have HX := Lib.hid (show runsC l L = ([], false) by rw [← HR.out.2.1, drop_get HG.out]; exact runsC_no HA.out)
        go_wp2_with fail
        go_returns
        exact ⟨_, by rw [HX.out]; rfl, by rw [HX.out]; exact OwnI.nil _ _ none, HB3.out⟩
      · have HX := Lib.hid (show runsC (l.drop (k + 1)) L2 = runsC l L by rw [← HR.out.2.1, drop_get HG.out]; exact (runsC_yes HA.out).symm)
        go_wp2_with fail
        go_roundw
        case measure => have := HK.out; simp [intOf]; omega
        case rel => exact ⟨k + 1, L2, by simp, HK.out, Lib.hid ⟨HO3.out, HX.out, by have := stepC_len o L'; rw [HA.out] at this; have := HR.out.2.2.1; simp at *; omega, HB3.out⟩⟩
    · have q1 : decide ((k : Int) < (l.length : Int)) = false := decide_eq_false (by omega)
      have q2 : ((k : Int) < (l.length : Int)) = False := eq_false (by omega)
      have HX := Lib.hid (show runsC l L = (L', true) by rw [← HR.out.2.1, List.drop_eq_nil_of_le (by omega)]; rfl)
      clear hk hkl
      go_wp2_with fail
      go_returns
      exact ⟨_, by rw [HX.out]; rfl, by rw [HX.out]; exact HR.out.1, HR.out.2.2.2⟩
def firstC (k : Int) : List Int := if k = 1 ∨ k = 2 then [0] else []
theorem mfirst_any (k : Int) (w : World) : Calls Try.prog 14 #[.int .i64 k] w fun e w' => ∃ v', e = .returned v' ∧ IntsOf w' v' (firstC k) ∧ Below w.heap.size w w' := by
  by_cases c1 : k = 1
  · have HA := Lib.hid (show firstC k = [0] by simp [firstC, c1])
    subst c1
    go_enter Try.func14, Try.ntmps14
    go_wp2_with fail
    go_returns
    exact ⟨_, rfl, by rw [HA.out]; exact (OwnI.fresh w (Nat.le_refl _) 0 (by omega)).reads, by go_grown⟩
  · have q1 : (k == 1) = false := beq_eq_false_iff_ne.2 c1
    by_cases c2 : k = 2
    · have HA := Lib.hid (show firstC k = [0] by simp [firstC, c2])
      subst c2
      clear c1 q1
      go_enter Try.func14, Try.ntmps14
      go_wp2_with fail
      go_returns
      exact ⟨_, rfl, by rw [HA.out]; exact (OwnI.fresh w (Nat.le_refl _) 0 (by omega)).reads, by go_grown⟩
    · have q2 : (k == 2) = false := beq_eq_false_iff_ne.2 c2
      have HA := Lib.hid (show firstC k = [] by simp [firstC, c1, c2])
      clear c1 c2
      go_enter Try.func14, Try.ntmps14
      go_wp2_with fail
      go_returns
      exact ⟨_, rfl, by rw [HA.out]; exact .inl ⟨rfl, none, 0, rfl⟩, by go_grown⟩
theorem rfirst_any (k : Int) (w : World) : Calls Try.prog 15 #[.int .i64 k] w fun e w' => ∃ v', e = .returned v' ∧ IntsOf w' v' (firstC k) ∧ Below w.heap.size w w' := by
  by_cases c1 : k = 1
  · have HA := Lib.hid (show firstC k = [0] by simp [firstC, c1])
    subst c1
    go_enter Try.func15, Try.ntmps15
    go_wp2_with fail
    go_returns
    exact ⟨_, rfl, by rw [HA.out]; exact (OwnI.fresh w (Nat.le_refl _) 0 (by omega)).reads, by go_grown⟩
  · have q1 : (k == 1) = false := beq_eq_false_iff_ne.2 c1
    by_cases c2 : k = 2
    · have HA := Lib.hid (show firstC k = [0] by simp [firstC, c2])
      subst c2
      clear c1 q1
      go_enter Try.func15, Try.ntmps15
      go_wp2_with fail
      go_returns
      exact ⟨_, rfl, by rw [HA.out]; exact (OwnI.fresh w (Nat.le_refl _) 0 (by omega)).reads, by go_grown⟩
    · have q2 : (k == 2) = false := beq_eq_false_iff_ne.2 c2
      have HA := Lib.hid (show firstC k = [] by simp [firstC, c1, c2])
      clear c1 c2
      go_enter Try.func15, Try.ntmps15
      go_wp2_with fail
      go_returns
      exact ⟨_, rfl, by rw [HA.out]; exact .inl ⟨rfl, none, 0, rfl⟩, by go_grown⟩
end Go.Proofs.Ytkdaghflonppfaa
