/- Contracts of the reference's Encode. -/
import Derived.Test.YthgibogdbbebaaaDoorOpM
namespace Go.Proofs.YthgibogdbbebaaaDoor
set_option maxRecDepth 100000
open Go.ChangeShapes Go.WideShapes Go.ChangeAt Go.RowKit Go.PlainAid
open Go.Sort (grow)

attribute [local go_sem ↓ high] load_op
set_option maxHeartbeats 1000000 in
theorem rencode_no (o : OpV) (w : World) (h : checkZ o ≠ 0) : Calls Tryd.prog 15 #[Value.agg #[Value.int .i64 o.id, Value.int .i64 o.proc, Value.int .i64 o.obj, Value.int .i64 o.kind, Value.int .i64 o.meth, Value.int .i64 o.arg, Value.int .i64 o.sec, Value.bool o.done, Value.int .i64 o.res, Value.int .i64 o.inv, Value.int .i64 o.ret]] w fun e w' => e = .returned (.tuple #[.string ⟨#[]⟩, .int .i64 (checkZ o)]) ∧ Below w.heap.size w w' := by
  have HB := Lib.hid (show Below w.heap.size w (w.alloc (.cells #[Value.int .i64 o.id, Value.int .i64 o.proc, Value.int .i64 o.obj, Value.int .i64 o.kind, Value.int .i64 o.meth, Value.int .i64 o.arg, Value.int .i64 o.sec, Value.bool o.done, Value.int .i64 o.res, Value.int .i64 o.inv, Value.int .i64 o.ret] 29)) by go_grown)
  have l0 := (OpAt.box w o).load
  obtain ⟨z, hz⟩ : ∃ z, checkZ o = z := ⟨_, rfl⟩
  rw [hz] at h ⊢
  have HZ := Lib.hid hz
  have h' : (z == 0) = false := beq_eq_false_iff_ne.2 h
  clear hz
  go_enter Tryd.func15, Tryd.ntmps15
  go_wp2_with fail
  refine (rcheck_any o _).mono ?_
  rintro _ w1 ⟨rfl, hb1⟩
  rw [HZ.out]
  have l1 := ((OpAt.box w o).on hb1).load
  have HB1 := Lib.hid (HB.out.on hb1)
  clear hb1
  go_wp2_with fail
  refine (rcheck_any o _).mono ?_
  rintro _ w2 ⟨rfl, hb2⟩
  rw [HZ.out]
  have HB2 := Lib.hid (HB1.out.on hb2)
  clear hb2
  go_wp2_with fail
  go_returns
  exact ⟨rfl, HB2.out⟩
set_option maxHeartbeats 2000000 in
theorem rencode_ok (o : OpV) (w : World) (h : checkZ o = 0) : Calls Tryd.prog 15 #[Value.agg #[Value.int .i64 o.id, Value.int .i64 o.proc, Value.int .i64 o.obj, Value.int .i64 o.kind, Value.int .i64 o.meth, Value.int .i64 o.arg, Value.int .i64 o.sec, Value.bool o.done, Value.int .i64 o.res, Value.int .i64 o.inv, Value.int .i64 o.ret]] w fun e w' => e = .returned (.tuple #[.string (recS o), .int .i64 0]) ∧ Below w.heap.size w w' := by
  have HB := Lib.hid (show Below w.heap.size w (w.alloc (.cells #[Value.int .i64 o.id, Value.int .i64 o.proc, Value.int .i64 o.obj, Value.int .i64 o.kind, Value.int .i64 o.meth, Value.int .i64 o.arg, Value.int .i64 o.sec, Value.bool o.done, Value.int .i64 o.res, Value.int .i64 o.inv, Value.int .i64 o.ret] 29)) by go_grown)
  have l0 := (OpAt.box w o).load
  have HF := Lib.hid (fine_of h)
  have HZ := Lib.hid h
  clear h
  go_enter Tryd.func15, Tryd.ntmps15
  go_wp2_with fail
  clear l0
  refine (rcheck_any o _).mono ?_
  rintro _ w0 ⟨rfl, hb1⟩
  rw [HZ.out]
  have oa0 := (OpAt.box w o).on hb1
  obtain ⟨k0, k1, k2, k3, k4, k5, k6, k7, k8, k9, k10⟩ := oa0.cell
  have hq := heap_alloc_new w0 (.cells #[.int .i64 o.id, .int .i64 o.proc, .int .i64 o.obj, .int .i64 o.kind, .int .i64 o.meth, .int .i64 o.arg, .int .i64 o.sec, .int .i64 o.inv] 3)
  have hb2 : Below w0.heap.size w0 (w0.alloc (.cells #[.int .i64 o.id, .int .i64 o.proc, .int .i64 o.obj, .int .i64 o.kind, .int .i64 o.meth, .int .i64 o.arg, .int .i64 o.sec, .int .i64 o.inv] 3)) := by go_grown
  obtain ⟨w1, hw1⟩ : ∃ w1, w0.alloc (.cells #[.int .i64 o.id, .int .i64 o.proc, .int .i64 o.obj, .int .i64 o.kind, .int .i64 o.meth, .int .i64 o.arg, .int .i64 o.sec, .int .i64 o.inv] 3) = w1 := ⟨_, rfl⟩
  rw [hw1] at hq hb2
  have OA1 := Lib.hid (oa0.on hb2)
  have HB1 := Lib.hid (HB.out.on (hb1.on hb2))
  have HG := Lib.hid (heap_inO hq)
  have HC := Lib.hid (show ∀ (k : Nat) (x : Int), (headL o)[k]? = some x → w1.cell? ⟨w0.heap.size, k, none⟩ = some (.int .i64 x) from fun k x hx => by
    rw [cell_of_row _ _ _ _ _ _ hq]
    have : (headL o).map (Value.int .i64) = #[Value.int .i64 o.id, .int .i64 o.proc, .int .i64 o.obj, .int .i64 o.kind, .int .i64 o.meth, .int .i64 o.arg, .int .i64 o.sec, .int .i64 o.inv].toList := rfl
    rw [← Array.getElem?_toList, ← this, List.getElem?_map, hx]
    rfl)
  clear hb1 hb2 oa0 hq
  go_wp2_with fail
  clear k0 k1 k2 k3 k4 k5 k6 k7 k8 k9 k10 hw1
  go_loopw [5, 6] (fun s i wr => ∃ k : Nat, k ≤ 8 ∧ i = .int .i64 k ∧ s = .string (varsS ((headL o).take k)) ∧ Below w1.heap.size w1 wr) (fun _ i _ => 8 - (intOf i).toNat)
  case atStart => exact ⟨0, Nat.zero_le _, rfl, rfl, Below.refl _ _⟩
  case round =>
    obtain ⟨k, hk, rfl, rfl, hb⟩ := hrel
    have HW := Lib.hid hb
    by_cases hlt : k < 8
    · obtain ⟨x, hx⟩ : ∃ x, (headL o)[k]? = some x := ⟨_, List.getElem?_eq_getElem hlt⟩
      have hi := (hb.cell (p := ⟨w0.heap.size, k, none⟩) HG.out).trans (HC.out k x hx)
      clear hb
      have hxb := headL_b HF.out x (List.mem_of_getElem? hx)
      obtain ⟨x0, x1⟩ := hxb
      have hn := Lib.hid (show varsS ((headL o).take (k + 1)) = varsS ((headL o).take k) ++ varS x by rw [List.take_add_one, hx]; exact varsS_snoc _ _)
      have hs1 : (varsS ((headL o).take k)).size ≤ 80 := Nat.le_trans (varsS_len _ fun n hn => headL_b HF.out n (List.mem_of_mem_take hn)) (by rw [List.length_take]; omega)
      have hs2 := varS_size x x0 (by omega)
      clear hx
      go_wp2_with fail
      refine (rvar_any x x0 (by omega) _).mono ?_
      rintro _ w2 ⟨rfl, hb2⟩
      have HB2 := Lib.hid (HW.out.on hb2)
      clear hb2
      go_wp2_with fail
      go_roundw
      case rel => exact ⟨k + 1, by omega, by go_num, by rw [hn.out], HB2.out⟩
      case measure => simp [intOf]; omega
    · clear hb
      obtain rfl : k = 8 := by omega
      have HB2 := Lib.hid (HB1.out.on HW.out)
      have oa := OA1.out.on HW.out
      have ht := Lib.hid (show (headL o).take 8 = headL o from rfl)
      obtain ⟨_, _, _, _, _, _, _, k7, k8, k9, k10⟩ := oa.cell
      cases hd : o.done
      · have hn := Lib.hid (rec_no hd)
        rw [hd] at k7
        clear hd
        go_wp2_with fail
        go_returns
        exact ⟨by rw [hn.out]; rfl, HB2.out⟩
      · have hn := Lib.hid (rec_yes hd)
        obtain ⟨y1, y2⟩ := HF.out.yes hd
        obtain ⟨v1, v2⟩ := HF.out.inv
        obtain ⟨f1, f2⟩ := fold_u64 HF.out.res
        have hr := HF.out.res
        rw [hd] at k7
        rw [ht.out]
        have c8 := fun d os => cell_regrown k8 d os
        have c9 := fun d os => cell_regrown k9 d os
        have c10 := fun d os => cell_regrown k10 d os
        have hs1 := head_size HF.out
        have hs2 := varS_size (o.ret - o.inv) (by omega) (by omega)
        have hs3 := varS_size (foldZ o.res) f1 f2
        have hs4 : (varsS (headL o) ++ varS (o.ret - o.inv)).size ≤ 37 := by rw [ByteArray.size_append]; omega
        have C1 := Lib.hid (show ∀ d os, Calls Tryd.prog 30 #[.int .u64 (o.ret - o.inv)] (grow (redrawn wr d) os) fun e w'' => e = .returned (.string (varS (o.ret - o.inv))) ∧ ∃ p : Regrown, w'' = grow (redrawn wr p.d) p.os from fun d os => Calls.regrown_of (rvar_any _ (by omega) (by omega) _))
        have C2 := Lib.hid (show ∀ d os, Calls Tryd.prog 31 #[.int .i64 o.res] (grow (redrawn wr d) os) fun e w'' => e = .returned (.int .u64 (foldZ o.res)) ∧ ∃ p : Regrown, w'' = grow (redrawn wr p.d) p.os from fun d os => Calls.regrown_of ((rfold_any o.res _ (by omega) (by omega)).mono fun _ _ ⟨he, hw⟩ => ⟨he, hw ▸ Below.refl _ _⟩))
        have C3 := Lib.hid (show ∀ d os, Calls Tryd.prog 30 #[.int .u64 (foldZ o.res)] (grow (redrawn wr d) os) fun e w'' => e = .returned (.string (varS (foldZ o.res))) ∧ ∃ p : Regrown, w'' = grow (redrawn wr p.d) p.os from fun d os => Calls.regrown_of (rvar_any _ f1 f2 _))
        have s1 : IntKind.i64.wrap (o.ret - o.inv) = o.ret - o.inv := IntWalk.i64_in _ (by omega)
        have s2 : IntKind.u64.wrap (o.ret - o.inv) = o.ret - o.inv := IntWalk.u64_in _ (by omega)
        clear hd oa
        go_wp2_with fail
        clear k7 k8 k9 k10
        refine wp_region_quiet_below (by kernel_rfl) (by kernel_rfl) ?_
        repeat (go_big_quiet_step (first | (with_reducible exact C1.out _ _) | (with_reducible exact C2.out _ _) | (with_reducible exact C3.out _ _)))
        refine wpQuiet_nil ?_
        intro _ hw'
        obtain ⟨⟨dq, osq⟩, hw''⟩ := hw'
        subst hw''
        go_wp2
        go_returns
        exact ⟨by rw [hn.out, ← ByteArray.append_assoc]; rfl, HB2.out.on (below_regrown wr dq osq)⟩
end Go.Proofs.YthgibogdbbebaaaDoor
