import Derived.Test.YtcjfnfdinhbdlaaGreatDoorGbt
import Derived.Test.YtcjfnfdinhbdlaaGreatDoorGaw
namespace Go.Proofs.YtcjfnfdinhbdlaaGreatDoor
set_option maxRecDepth 100000
open Go.ChangeShapes Go.WideShapes Go.ChangeAt Go.RowKit Go.PlainAid Go.Deep
attribute [local go_sem ↓ high] load_op store_o
attribute [local go_sem] Oper.semAt_some
def NoTab (w : World) (tv : Option Addr) : Prop := tv = none ∨ ∃ b, tv = some ⟨b, 0, none⟩ ∧ b < w.heap.size ∧ w.cell? ⟨b, 0, none⟩ = some (.pointer none)
theorem NoTab.on {w w' : World} {tv : Option Addr} (h : NoTab w tv) (hb : Below w.heap.size w w') : NoTab w' tv := by
  rcases h with h | ⟨b, h1, h2, h3⟩
  · exact .inl h
  · exact .inr ⟨b, h1, Nat.lt_of_lt_of_le h2 hb.size, (hb.cell (p := ⟨b, 0, none⟩) h2).trans h3⟩
theorem NoTab.made {w : World} {tv : Option Addr} (h : NoTab w tv) : IsMade w tv false := by
  rcases h with rfl | ⟨b, rfl, h2, h3⟩
  · exact tmade_nil w
  · exact tmade_zero h3
def SaysT (w : World) (v : Value) (e : Ending) (w' : World) : Prop := e = .returned v ∧ Below w.heap.size w w'
theorem tget_no {w : World} {tv : Option Addr} (h : NoTab w tv) (id : Int) : Calls Tryz.prog 30 #[.pointer tv, .int .i64 id] w (SaysT w (.tuple #[Value.agg #[Value.int .i64 0, Value.int .i64 0, Value.int .i64 0, Value.int .i64 0, Value.int .i64 0, Value.int .i64 0, Value.int .i64 0, Value.bool false, Value.int .i64 0, Value.int .i64 0, Value.int .i64 0], .int .i64 3])) := by
  have hb : Below w.heap.size w (w.alloc (.cells #[Value.int .i64 0, Value.int .i64 0, Value.int .i64 0, Value.int .i64 0, Value.int .i64 0, Value.int .i64 0, Value.int .i64 0, Value.bool false, Value.int .i64 0, Value.int .i64 0, Value.int .i64 0] 32)) := by go_grown
  have s1 := store_op_new w (#[Value.int .i64 0, Value.int .i64 0, Value.int .i64 0, Value.int .i64 0, Value.int .i64 0, Value.int .i64 0, Value.int .i64 0, Value.bool false, Value.int .i64 0, Value.int .i64 0, Value.int .i64 0]) rfl zeroV
  have l1 := (OpAt.box w zeroV).load
  dsimp only [zeroV] at s1 l1
  have HM := Lib.hid (h.on hb).made
  have HO := Lib.hid (OpAt.box w zeroV)
  obtain ⟨W0, hW0⟩ : ∃ W0, w.alloc (.cells #[Value.int .i64 0, Value.int .i64 0, Value.int .i64 0, Value.int .i64 0, Value.int .i64 0, Value.int .i64 0, Value.int .i64 0, Value.bool false, Value.int .i64 0, Value.int .i64 0, Value.int .i64 0] 32) = W0 := ⟨_, rfl⟩
  rw [show w.alloc (.cells #[Value.int .i64 zeroV.id, Value.int .i64 zeroV.proc, Value.int .i64 zeroV.obj, Value.int .i64 zeroV.kind, Value.int .i64 zeroV.meth, Value.int .i64 zeroV.arg, Value.int .i64 zeroV.sec, Value.bool zeroV.done, Value.int .i64 zeroV.res, Value.int .i64 zeroV.inv, Value.int .i64 zeroV.ret] 32) = W0 from hW0] at HO
  rw [hW0] at HM hb s1 l1
  have HB := Lib.hid hb
  clear h hb
  go_enter Tryz.func30, Tryz.ntmps30
  go_wp2_with fail
  refine HM.out.mono ?_
  rintro e _ ⟨rfl, rfl⟩
  go_wp2_with fail
  have q6 := cells11 HO.out
  refine bodyPost_ret (v := .tuple #[Value.agg #[Value.int .i64 zeroV.id, Value.int .i64 zeroV.proc, Value.int .i64 zeroV.obj, Value.int .i64 zeroV.kind, Value.int .i64 zeroV.meth, Value.int .i64 zeroV.arg, Value.int .i64 zeroV.sec, Value.bool zeroV.done, Value.int .i64 zeroV.res, Value.int .i64 zeroV.inv, Value.int .i64 zeroV.ret], .int .i64 3]) (by simp [results, Tryz.results30, go_sem, q6]) rfl ?_
  exact ⟨rfl, HB.out⟩
theorem tput_no {w : World} {tv : Option Addr} (h : NoTab w tv) (o : OpV) : Calls Tryz.prog 31 #[.pointer tv, Value.agg #[Value.int .i64 o.id, Value.int .i64 o.proc, Value.int .i64 o.obj, Value.int .i64 o.kind, Value.int .i64 o.meth, Value.int .i64 o.arg, Value.int .i64 o.sec, Value.bool o.done, Value.int .i64 o.res, Value.int .i64 o.inv, Value.int .i64 o.ret]] w (SaysT w (.int .i64 3)) := by
  have hb : Below w.heap.size w (w.alloc (.cells #[Value.int .i64 o.id, Value.int .i64 o.proc, Value.int .i64 o.obj, Value.int .i64 o.kind, Value.int .i64 o.meth, Value.int .i64 o.arg, Value.int .i64 o.sec, Value.bool o.done, Value.int .i64 o.res, Value.int .i64 o.inv, Value.int .i64 o.ret] 32)) := by go_grown
  have HM := Lib.hid (h.on hb).made
  obtain ⟨W0, hW0⟩ : ∃ W0, w.alloc (.cells #[Value.int .i64 o.id, Value.int .i64 o.proc, Value.int .i64 o.obj, Value.int .i64 o.kind, Value.int .i64 o.meth, Value.int .i64 o.arg, Value.int .i64 o.sec, Value.bool o.done, Value.int .i64 o.res, Value.int .i64 o.inv, Value.int .i64 o.ret] 32) = W0 := ⟨_, rfl⟩
  rw [hW0] at HM hb
  have HB := Lib.hid hb
  clear h hb
  go_enter Tryz.func31, Tryz.ntmps31
  go_wp2_with fail
  refine HM.out.mono ?_
  rintro e _ ⟨rfl, rfl⟩
  go_wp2_with fail
  go_returns
  exact ⟨rfl, HB.out⟩
theorem tdel_no {w : World} {tv : Option Addr} (h : NoTab w tv) (id : Int) : Calls Tryz.prog 32 #[.pointer tv, .int .i64 id] w (SaysT w (.int .i64 3)) := by
  have HG := Lib.hid (tget_no h id)
  clear h
  go_enter Tryz.func32, Tryz.ntmps32
  go_wp2_with fail
  refine HG.out.mono ?_
  rintro e w1 ⟨rfl, hb⟩
  have s1 := store_op_new w1 (#[Value.int .i64 0, Value.int .i64 0, Value.int .i64 0, Value.int .i64 0, Value.int .i64 0, Value.int .i64 0, Value.int .i64 0, Value.bool false, Value.int .i64 0, Value.int .i64 0, Value.int .i64 0]) rfl zeroV
  dsimp only [zeroV] at s1
  have HB := Lib.hid (hb.on (show Below w1.heap.size w1 (w1.alloc (.cells #[Value.int .i64 0, Value.int .i64 0, Value.int .i64 0, Value.int .i64 0, Value.int .i64 0, Value.int .i64 0, Value.int .i64 0, Value.bool false, Value.int .i64 0, Value.int .i64 0, Value.int .i64 0] 32)) by go_grown))
  clear hb HG
  go_wp2_with fail
  go_returns
  exact ⟨rfl, HB.out⟩
theorem tlist_no {w : World} {tv : Option Addr} (h : NoTab w tv) (way : Int) (low past : ByteArray) : Calls Tryz.prog 44 #[.pointer tv, .int .i64 way, .string low, .string past] w (NilPost w) :=
  list_not way low past (h.on (show Below w.heap.size w (((w.alloc (boxTp tv)).alloc (boxIn way)).alloc (boxS past)) by unfold boxTp boxIn boxS; go_grown)).made
theorem tList_no {w : World} {tv : Option Addr} (h : NoTab w tv) : Calls Tryz.prog 13 #[.pointer tv] w (NilPost w) := by
  have HL := Lib.hid (tlist_no h 0 ⟨#[]⟩ ⟨#[]⟩)
  clear h
  go_enter Tryz.func13, Tryz.ntmps13
  go_wp2_with fail
  refine HL.out.mono ?_
  rintro e w1 ⟨rfl, hb⟩
  have HB := Lib.hid hb
  clear hb HL
  go_wp2_with fail
  go_returns
  exact ⟨rfl, HB.out⟩
theorem tpages_no {w : World} {tv : Option Addr} (h : NoTab w tv) : Calls Tryz.prog 23 #[.pointer tv] w (NilPost w) := by
  have HM := Lib.hid h.made
  clear h
  go_enter Tryz.func23, Tryz.ntmps23
  go_wp2_with fail
  refine HM.out.mono ?_
  rintro e _ ⟨rfl, rfl⟩
  go_wp2_with fail
  go_returns
  exact ⟨rfl, Below.refl _ _⟩
theorem ttroub_no {w : World} {tv : Option Addr} (h : NoTab w tv) : Calls Tryz.prog 22 #[.pointer tv] w (NilPost w) := by
  have HM := Lib.hid h.made
  clear h
  go_enter Tryz.func22, Tryz.ntmps22
  go_wp2_with fail
  refine HM.out.mono ?_
  rintro e _ ⟨rfl, rfl⟩
  go_wp2_with fail
  go_returns
  exact ⟨rfl, Below.refl _ _⟩
set_option maxHeartbeats 2000000 in
theorem found_no {w : World} {tv : Option Addr} (h : NoTab w tv) (way : Int) (fv : Value) (front : List Int) (hf : IntsOf w fv front) : Calls Tryz.prog 16 #[.pointer tv, .int .i64 way, fv, .int .i64 9] w (NilPost w) := by
  have hmf := make_func
  have heq := eq_seqO
  have hb1 : Below w.heap.size w ((w.alloc (boxIn 9)).alloc (boxO (.slice none 0 0))) := by unfold boxIn boxO; go_grown
  have k0 : ((w.alloc (boxIn 9)).alloc (boxO (.slice none 0 0))).cell? ⟨w.heap.size, 0, none⟩ = some (.int .i64 9) := solo_cell (alloc_old (heap_alloc_new w (boxIn 9)))
  have g1 := heap_alloc_new (w.alloc (boxIn 9)) (boxO (.slice none 0 0))
  rw [World.size_alloc] at g1
  have hlt := heap_inO g1
  obtain ⟨W1, hW1⟩ : ∃ W1, (w.alloc (boxIn 9)).alloc (boxO (.slice none 0 0)) = W1 := ⟨_, rfl⟩
  rw [hW1] at hb1 k0 g1 hlt
  have HF := Lib.hid (tfind_gen tv way fv front W1 (hf.on hb1))
  have HX := Lib.hid (And.intro hb1 (And.intro (h.on hb1) (And.intro g1 hlt)))
  clear hf h hb1 g1 hlt
  unfold boxIn boxO at hW1
  go_enter Tryz.func16, Tryz.ntmps16
  go_wp2_with fail
  refine HF.out.mono ?_
  rintro e w2 (⟨h4, rfl, hb2⟩ | ⟨h4, w3, hb3, rfl, rfl⟩)
  · have k1 := (boxO_cell ((hb2.block _ HX.out.2.2.2).trans HX.out.2.2.1)).1
    have HZ := Lib.hid (HX.out.1.on hb2)
    unfold nV
    clear hb2 h4 HF
    go_wp2_with fail
    refine (nothing_any w2).mono ?_
    rintro e w5 ⟨rfl, rfl⟩
    go_wp2_with fail
    go_returns
    exact ⟨rfl, HZ.out⟩
  · obtain ⟨hg, c1, c2, c3, c4⟩ := gW_parts w3 tv way (keyS front) (pastS (keyS front))
    have hb4 := hb3.on hg
    have HC := Lib.hid (given1_nil (f := 48) (caps := #[.pointer (some ⟨w.heap.size + 1, 0, none⟩), .pointer (some ⟨w.heap.size, 0, none⟩)]) (tlist_no (HX.out.2.1.on hb4) way (keyS front) (pastS (keyS front))) c1 c2 c3 c4)
    have HB4 := Lib.hid hb4
    obtain ⟨W4, hW4⟩ : ∃ W4, gW w3 tv way (keyS front) (pastS (keyS front)) = W4 := ⟨_, rfl⟩
    rw [hW4] at HC HB4 ⊢
    unfold gV
    clear h4 hb3 hb4 hg c1 c2 c3 c4 hW4 HF
    go_wp2_with fail
    refine HC.out.mono ?_
    rintro e w6 ⟨rfl, hb6⟩
    have hb7 := HB4.out.on hb6
    have k1 := (boxO_cell ((hb7.block _ HX.out.2.2.2).trans HX.out.2.2.1)).1
    have HZ := Lib.hid (HX.out.1.on hb7)
    clear hb6 hb7 HC
    go_wp2_with fail
    go_returns
    exact ⟨rfl, HZ.out⟩
end Go.Proofs.YtcjfnfdinhbdlaaGreatDoor
namespace Go.Proofs.YtcjfnfdinhbdlaaGreatDoor
set_option maxRecDepth 100000
open Go.ChangeShapes Go.WideShapes Go.ChangeAt Go.RowKit Go.PlainAid Go.Deep
theorem tp_made (w : World) : Calls Tryz.prog 87 #[.pointer none] w fun e w' => e = .returned (.bool false) ∧ w = w' := by
  go_enter Tryz.func87, Tryz.ntmps87
  go_wp2
  go_returns
  exact ⟨rfl, rfl⟩
theorem tp_tree (w : World) (k : Int) : Calls Tryz.prog 107 #[.pointer none, .int .i64 k] w fun e w' => e = .returned (.int .i64 3) ∧ w = w' := by
  go_enter Tryz.func107, Tryz.ntmps107
  go_wp2_with fail
  refine (tp_made _).mono ?_
  rintro e _ ⟨rfl, rfl⟩
  go_wp2
  go_returns
  exact ⟨rfl, rfl⟩
theorem tp_root (w : World) (k : Int) : Calls Tryz.prog 61 #[.pointer none, .int .i64 k] w fun e w' => e = .returned (.tuple #[.int .i64 0, .int .i64 3]) ∧ w = w' := by
  go_enter Tryz.func61, Tryz.ntmps61
  go_wp2_with fail
  refine (tp_tree _ k).mono ?_
  rintro e _ ⟨rfl, rfl⟩
  go_wp2
  go_returns
  exact ⟨rfl, rfl⟩
theorem tp_open (w : World) (k : Int) : Calls Tryz.prog 24 #[.pointer none, .int .i64 k] w fun e w' => e = .returned (.tuple #[.pointer none, .int .i64 3]) ∧ w = w' := by
  go_enter Tryz.func24, Tryz.ntmps24
  go_wp2_with fail
  refine (tp_root _ k).mono ?_
  rintro e _ ⟨rfl, rfl⟩
  go_wp2
  go_returns
  exact ⟨rfl, rfl⟩
theorem tabopen_nil (w : World) : Calls Tryz.prog 33 #[.pointer none] w (SaysT w (.tuple #[.pointer none, .int .i64 3])) := by
  have hb : Below w.heap.size w (w.alloc (.cells #[.pointer none, .pointer none, .pointer none, .pointer none, .pointer none] 69)) := by go_grown
  obtain ⟨W0, hW0⟩ : ∃ W0, w.alloc (.cells #[.pointer none, .pointer none, .pointer none, .pointer none, .pointer none] 69) = W0 := ⟨_, rfl⟩
  rw [hW0] at hb
  have HB := Lib.hid hb
  clear hb
  go_enter Tryz.func33, Tryz.ntmps33
  go_wp2_with fail
  go_loopw [8] (fun s8 wr => s8 = .int .i64 0 ∧ wr = W0) (fun _ _ => 0)
  case atStart => exact ⟨rfl, rfl⟩
  case round =>
    obtain ⟨rfl, rfl⟩ := hrel
    go_wp2_with fail
    refine (tp_open _ 0).mono ?_
    rintro e _ ⟨rfl, rfl⟩
    go_wp2_with fail
    go_returns
    exact ⟨rfl, HB.out⟩
end Go.Proofs.YtcjfnfdinhbdlaaGreatDoor
namespace Go.Proofs.YtcjfnfdinhbdlaaGreatDoor
set_option maxRecDepth 100000
open Go.ChangeShapes Go.WideShapes Go.ChangeAt Go.RowKit Go.PlainAid Go.Deep
attribute [local go_sem ↓ high] load_op store_o
attribute [local go_sem] Oper.semAt_some
def awA : OpV := ⟨1, 0, 3, 6, 13, 0, 0, false, 0, 9, 0⟩
def awB : OpV := ⟨2, 0, 3, 6, 13, 0, 0, false, 0, 4, 0⟩
theorem wf_awA : awA.Wf := by constructor <;> decide
theorem wf_awB : awB.Wf := by constructor <;> decide
theorem aw_one : Hs.inL TL [] awA = [awA] := rfl
theorem aw_two : Hs.inL TL [awA] awB = [awA, awB] := rfl
theorem aw_find : (rfindL 1 [3] [awA, awB]).take (9 : Int).toNat = [awB, awA] := rfl
theorem aw_chk : checkZ awA = 0 ∧ checkZ awB = 0 := by decide
def twoC (x y : OpV) : Array Value := (cellsO x ++ cellsO y).toArray
theorem ops_two {w : World} {g : Nat} {x y : OpV} (h : w.heap[g]? = some (.cells (twoC x y) 32 (0, 0))) (hx : x.Wf) (hy : y.Wf) : OpsOf w (.slice (some ⟨g, 0, none⟩) 2 2) [x, y] :=
  OpsOwn.reads (n₀ := 0) ⟨flatO_len _, .inr ⟨g, 2, twoC x y, rfl, Nat.zero_le _, h, Nat.le_refl _, by decide, rfl, rfl⟩⟩ fun o ho => by
    simp only [List.mem_cons, List.not_mem_nil, or_false] at ho
    rcases ho with rfl | rfl
    · exact hx
    · exact hy
section
variable {w0 w w' : World} {pp n c tt : Nat} {tb : Nat → Nat} {V : Int → ByteArray} {R : List (Nat × Obj)} {u0 : Nat} {RR : Nat → List Pr} {QQ : Nat → List Int} {l : List OpV}
def AwPut (w0 : World) (pp c : Nat) (l : List OpV) (R : List (Nat × Obj)) (e : Ending) (w' : World) : Prop :=
  e = .returned (.int .i64 0) ∧ ∃ V' RR QQ, TabV V' 938 2 l RR QQ ∧ PV w0 pp 938 c V' R w'
theorem aw_put1 (hR : TabR pp tt tb R) (hRu : RulesAt w0) (H : PV w0 pp 938 2 (fmtV V) R w) : Calls Tryz.prog 31 #[.pointer (some ⟨tt, 0, none⟩), Value.agg #[Value.int .i64 1, Value.int .i64 0, Value.int .i64 3, Value.int .i64 6, Value.int .i64 13, Value.int .i64 0, Value.int .i64 0, Value.bool false, Value.int .i64 0, Value.int .i64 9, Value.int .i64 0]] w (AwPut w0 pp 12002 [awA] R) := by
  have h := tabput_new H hR (by omega) (fmt_tab V (by omega) (by omega)) hRu (by omega) (by simp) awA rfl
  refine Calls.mono h ?_
  rintro e w' (⟨hc, _⟩ | ⟨_, rfl, V', RR, QQ, h1, h2⟩)
  · exact absurd aw_chk.1 hc
  · exact ⟨rfl, V', RR, QQ, by rw [aw_one] at h1; exact h1, h2⟩
theorem aw_put2 (hR : TabR pp tt tb R) (hRu : RulesAt w0) (hT : TabV V 938 2 [awA] RR QQ) (H : PV w0 pp 938 12002 V R w) : Calls Tryz.prog 31 #[.pointer (some ⟨tt, 0, none⟩), Value.agg #[Value.int .i64 2, Value.int .i64 0, Value.int .i64 3, Value.int .i64 6, Value.int .i64 13, Value.int .i64 0, Value.int .i64 0, Value.bool false, Value.int .i64 0, Value.int .i64 4, Value.int .i64 0]] w (AwPut w0 pp 24002 [awA, awB] R) := by
  have h := tabput_new H hR (by omega) hT hRu (by omega) (by simp) awB rfl
  refine Calls.mono h ?_
  rintro e w' (⟨hc, _⟩ | ⟨_, rfl, V', RR, QQ, h1, h2⟩)
  · exact absurd aw_chk.2 hc
  · exact ⟨rfl, V', RR, QQ, by rw [aw_two] at h1; exact h1, h2⟩
theorem aw_found {fv : Value} (hR : TabR pp tt tb R) (hRu : RulesAt w0) (hT : TabV V 938 2 [awA, awB] RR QQ) (H : PV w0 pp 938 24002 V R w) (hf : IntsOf w fv [3]) : Calls Tryz.prog 16 #[.pointer (some ⟨tt, 0, none⟩), .int .i64 1, fv, .int .i64 9] w (ListPost w0 pp 938 24002 V R [awB, awA]) := by
  have h := found_any H hR (by omega) hT (fun o ho => by
    simp only [List.mem_cons, List.not_mem_nil, or_false] at ho
    rcases ho with rfl | rfl
    · exact wf_awA
    · exact wf_awB) hRu (by simp) 1 fv [3] hf 9 (by omega)
  rw [aw_find] at h
  exact h
def awI : Obj := .cells #[.int .i64 3] 3 (0, 0)
def awO : Obj := .cells #[Value.int .i64 2, Value.int .i64 0, Value.int .i64 3, Value.int .i64 6, Value.int .i64 13, Value.int .i64 0, Value.int .i64 0, Value.bool false, Value.int .i64 0, Value.int .i64 4, Value.int .i64 0, Value.int .i64 1, Value.int .i64 0, Value.int .i64 3, Value.int .i64 6, Value.int .i64 13, Value.int .i64 0, Value.int .i64 0, Value.bool false, Value.int .i64 0, Value.int .i64 9, Value.int .i64 0] 32 (0, 0)
def AwLd (ab : Nat) (W : World) : Prop := (loadS 32 (.pointer (some ⟨ab, 0, none⟩))).run Tryz.prog W = .ok (Value.agg #[Value.int .i64 1, Value.int .i64 0, Value.int .i64 3, Value.int .i64 6, Value.int .i64 13, Value.int .i64 0, Value.int .i64 0, Value.bool false, Value.int .i64 0, Value.int .i64 9, Value.int .i64 0]) W ∧ (loadS 32 (.pointer (some ⟨ab + 1, 0, none⟩))).run Tryz.prog W = .ok (Value.agg #[Value.int .i64 2, Value.int .i64 0, Value.int .i64 3, Value.int .i64 6, Value.int .i64 13, Value.int .i64 0, Value.int .i64 0, Value.bool false, Value.int .i64 0, Value.int .i64 4, Value.int .i64 0]) W
theorem aw_ld {ab : Nat} (hA : (ab, opO awA) ∈ R) (hB : (ab + 1, opO awB) ∈ R) (H : PV w0 pp n c V R w) : AwLd ab w := ⟨(H.opAt (x := awA) hA).load, (H.opAt (x := awB) hB).load⟩
def AwEnd (w0 : World) (ab : Nat) (e : Ending) (w' : World) : Prop := e = .returned (.bool true) ∧ Below w0.heap.size w0 w' ∧ AwLd ab w'
theorem aw_ops {v : Value} {Y : List (Nat × Obj)} {g ab : Nat} (hA : (ab, opO awA) ∈ R) (hB : (ab + 1, opO awB) ∈ R) (hr : OpR w0.heap.size [awB, awA] v Y) (H : PV w0 pp n c V R w) (hs : ∀ y ∈ Y, y ∈ R) (hg : w'.heap[g]? = some awO) (hb : Below w.heap.size w w') : Calls Tryz.prog 12 #[v, .slice (some ⟨g, 0, none⟩) 2 2] w' (AwEnd w0 ab) := by
  have hw : ∀ o ∈ [awB, awA], o.Wf := fun o ho => by
    simp only [List.mem_cons, List.not_mem_nil, or_false] at ho
    rcases ho with rfl | rfl
    · exact wf_awB
    · exact wf_awA
  refine (rops_any (((hr.own H hs).reads hw).on hb) (ops_two (x := awB) (y := awA) hg wf_awB wf_awA) (by simp)).mono ?_
  rintro e w2 ⟨rfl, hb2⟩
  exact ⟨rfl, H.below.on (hb.on hb2), aw_ld hA hB ((H.on hb).on hb2)⟩
def AwF (w0 : World) (pp tt : Nat) (V : Int → ByteArray) (g : Nat) (R : List (Nat × Obj)) (W : World) : Prop := Calls Tryz.prog 16 #[.pointer (some ⟨tt, 0, none⟩), .int .i64 1, .slice (some ⟨g, 0, none⟩) 1 1, .int .i64 9] W (ListPost w0 pp 938 24002 V R [awB, awA])
theorem aw_five {ab : Nat} (hA : (ab, opO awA) ∈ R) (hB : (ab + 1, opO awB) ∈ R) (hR : TabR pp tt tb R) (hRu : RulesAt w0) (hT : TabV V 938 2 [awA, awB] RR QQ) (H5 : PV w0 pp 938 24002 V R w) :
    (AwLd ab w ∧ AwLd ab (w.alloc awI) ∧ AwLd ab (w.alloc awO) ∧ AwLd ab ((w.alloc awI).alloc awO) ∧ AwLd ab ((w.alloc awO).alloc awI)) ∧
    AwF w0 pp tt V w.heap.size R (w.alloc awI) ∧ AwF w0 pp tt V w.heap.size ((w.heap.size + 1, awO) :: R) ((w.alloc awI).alloc awO) ∧ AwF w0 pp tt V (w.heap.size + 1) ((w.heap.size, awO) :: R) ((w.alloc awO).alloc awI) := by
  have HA := H5.push awI
  have HB := H5.push awO
  have HAB := HA.push awO
  have HBA := HB.push awI
  rw [World.size_alloc] at HAB HBA
  have hi : InI [3] := by intro x hx; simp at hx; omega
  have h3 := ints_one (w.alloc awO) 3 hi
  rw [World.size_alloc] at h3
  exact ⟨⟨aw_ld hA hB H5, aw_ld hA hB HA.drop, aw_ld hA hB HB.drop, aw_ld hA hB HAB.drop.drop, aw_ld hA hB HBA.drop.drop⟩, aw_found hR hRu hT HA.drop (ints_one w 3 hi), aw_found (hR.more fun y hy => List.mem_cons_of_mem _ hy) hRu hT (HAB.sub ((w.heap.size + 1, awO) :: R) fun y hy => by
    simp only [List.mem_cons] at hy ⊢
    rcases hy with h | h <;> simp [h]) ((ints_one w 3 hi).on (show Below (w.alloc awI).heap.size (w.alloc awI) ((w.alloc awI).alloc awO) by unfold awO; go_grown)), aw_found (hR.more fun y hy => List.mem_cons_of_mem _ hy) hRu hT HBA.drop h3⟩
set_option maxHeartbeats 8000000 in
theorem awake13_any (w : World) (hRu : RulesAt w) : Calls Tryz.prog 14 #[] w fun e w' => e = .returned (.bool true) ∧ Below w.heap.size w w' := by
  have HRu := Lib.hid hRu
  clear hRu
  go_enter Tryz.func14, Tryz.ntmps14
  go_wp2_with fail
  refine (begun13_any w).mono ?_
  rintro e w1 ⟨pp, p, tt, tb, V, rfl, hR, H1⟩
  have s1 := store_op_new w1 (#[Value.int .i64 0, Value.int .i64 0, Value.int .i64 0, Value.int .i64 0, Value.int .i64 0, Value.int .i64 0, Value.int .i64 0, Value.bool false, Value.int .i64 0, Value.int .i64 0, Value.int .i64 0]) rfl awA
  have H2 := H1.push (opO awA)
  have z2 : (w1.alloc (opO awA)).heap.size = w1.heap.size + 1 := World.size_alloc _ _
  obtain ⟨W2, hW2⟩ : ∃ W, w1.alloc (.cells #[Value.int .i64 awA.id, Value.int .i64 awA.proc, Value.int .i64 awA.obj, Value.int .i64 awA.kind, Value.int .i64 awA.meth, Value.int .i64 awA.arg, Value.int .i64 awA.sec, Value.bool awA.done, Value.int .i64 awA.res, Value.int .i64 awA.inv, Value.int .i64 awA.ret] 32) = W := ⟨_, rfl⟩
  have hW2' : w1.alloc (opO awA) = W2 := hW2
  rw [hW2'] at H2 z2
  rw [hW2] at s1
  have s2 := store_op_new W2 (#[Value.int .i64 0, Value.int .i64 0, Value.int .i64 0, Value.int .i64 0, Value.int .i64 0, Value.int .i64 0, Value.int .i64 0, Value.bool false, Value.int .i64 0, Value.int .i64 0, Value.int .i64 0]) rfl awB
  have H3 := H2.push (opO awB)
  obtain ⟨W3, hW3⟩ : ∃ W, W2.alloc (.cells #[Value.int .i64 awB.id, Value.int .i64 awB.proc, Value.int .i64 awB.obj, Value.int .i64 awB.kind, Value.int .i64 awB.meth, Value.int .i64 awB.arg, Value.int .i64 awB.sec, Value.bool awB.done, Value.int .i64 awB.res, Value.int .i64 awB.inv, Value.int .i64 awB.ret] 32) = W := ⟨_, rfl⟩
  have hW3' : W2.alloc (opO awB) = W3 := hW3
  rw [hW3'] at H3
  rw [hW3] at s2
  rw [z2] at H3 s2
  obtain ⟨ab, hab⟩ : ∃ ab, w1.heap.size = ab := ⟨_, rfl⟩
  rw [hab] at H3 s2 s1 z2
  obtain ⟨R, hRe⟩ : ∃ R, (ab + 1, opO awB) :: (ab, opO awA) :: ((tt, tabO tb) :: (treesL pp tb 5 ++ [])) = R := ⟨_, rfl⟩
  rw [hRe] at H3
  have hR3 : TabR pp tt tb R := hR.more fun y hy => by rw [← hRe]; simp only [List.mem_cons]; exact .inr (.inr (by simpa using hy))
  have hmA : (ab, opO awA) ∈ R := by rw [← hRe]; simp
  have hmB : (ab + 1, opO awB) ∈ R := by rw [← hRe]; simp
  have HM := Lib.hid (And.intro hmA hmB)
  obtain ⟨l1, l2⟩ := aw_ld hmA hmB H3.drew
  have HP1 := Lib.hid (aw_put1 hR3 HRu.out H3.drew)
  have HX := Lib.hid hR3
  clear hR H1 H2 H3 hR3 hmA hmB hRe hW2' hW3'
  dsimp only [awA, awB] at s1 s2 hW2 hW3
  go_wp2_with fail
  go_region_held3 (fun w' => (loadS 32 (.pointer (some ⟨ab, 0, none⟩))).run Tryz.prog w' = .ok (Value.agg #[Value.int .i64 1, Value.int .i64 0, Value.int .i64 3, Value.int .i64 6, Value.int .i64 13, Value.int .i64 0, Value.int .i64 0, Value.bool false, Value.int .i64 0, Value.int .i64 9, Value.int .i64 0]) w' ∧ (loadS 32 (.pointer (some ⟨ab + 1, 0, none⟩))).run Tryz.prog w' = .ok (Value.agg #[Value.int .i64 2, Value.int .i64 0, Value.int .i64 3, Value.int .i64 6, Value.int .i64 13, Value.int .i64 0, Value.int .i64 0, Value.bool false, Value.int .i64 0, Value.int .i64 4, Value.int .i64 0]) w') (go_keep)
    (first
      | (go_at_call 31
         (with_reducible refine HP1.out.mono ?_)
         rintro e w4 ⟨rfl, V4, RR4, QQ4, hT4, H4⟩
         obtain ⟨l3, l4⟩ := aw_ld HM.out.1 HM.out.2 H4
         have HP2 := Lib.hid (aw_put2 HX.out HRu.out hT4 H4)
         clear hT4 H4)
      | (go_at_call 31
         (with_reducible refine HP2.out.mono ?_)
         rintro e w5 ⟨rfl, V5, RR5, QQ5, hT5, H5⟩
         obtain ⟨⟨⟨l5, l6⟩, ⟨la5, la6⟩, ⟨lb5, lb6⟩, ⟨lc5, lc6⟩, ⟨ld5, ld6⟩⟩, hf1, hf2, hf3⟩ := aw_five HM.out.1 HM.out.2 HX.out HRu.out hT5 H5
         have HF1 := Lib.hid hf1
         have HF2 := Lib.hid hf2
         have HF3 := Lib.hid hf3
         dsimp only [AwF, awI, awO] at HF1 HF2 HF3
         dsimp only [awI, awO] at la5 la6 lb5 lb6 lc5 lc6 ld5 ld6
         clear hT5 H5 hf1 hf2 hf3)
      | (go_at_call 16
         (with_reducible refine HF1.out.mono ?_)
         rintro e w6 ⟨v, Y, rfl, hrow, H6, hYR⟩
         have HO := Lib.hid (aw_ops (List.mem_append_right _ HM.out.1) (List.mem_append_right _ HM.out.2) (g := w6.heap.size) hrow H6 (fun y hy => by simp [hy]) (heap_alloc_new w6 awO) (by go_grown))
         obtain ⟨m5, m6⟩ := aw_ld HM.out.1 HM.out.2 (H6.sub R fun y hy => by simp [hy])
         obtain ⟨n5, n6⟩ := aw_ld HM.out.1 HM.out.2 ((H6.push awO).sub R fun y hy => by simp [hy])
         unfold awO at HO n5 n6
         clear hrow H6 hYR)
      | (go_at_call 16
         (with_reducible refine HF2.out.mono ?_)
         rintro e w6 ⟨v, Y, rfl, hrow, H6, hYR⟩
         have HO := Lib.hid (aw_ops (List.mem_append_right _ (List.mem_cons_of_mem _ HM.out.1)) (List.mem_append_right _ (List.mem_cons_of_mem _ HM.out.2)) (g := w5.heap.size + 1) hrow H6 (fun y hy => by simp [hy]) (H6.mem (x := (w5.heap.size + 1, awO)) (by simp [awO])) (Below.refl _ _))
         obtain ⟨m5, m6⟩ := aw_ld HM.out.1 HM.out.2 (H6.sub R fun y hy => by simp [hy])
         clear hrow H6 hYR)
      | (go_at_call 16
         (with_reducible refine HF3.out.mono ?_)
         rintro e w6 ⟨v, Y, rfl, hrow, H6, hYR⟩
         have HO := Lib.hid (aw_ops (List.mem_append_right _ (List.mem_cons_of_mem _ HM.out.1)) (List.mem_append_right _ (List.mem_cons_of_mem _ HM.out.2)) (g := w5.heap.size) hrow H6 (fun y hy => by simp [hy]) (H6.mem (x := (w5.heap.size, awO)) (by simp [awO])) (Below.refl _ _))
         obtain ⟨m5, m6⟩ := aw_ld HM.out.1 HM.out.2 (H6.sub R fun y hy => by simp [hy])
         clear hrow H6 hYR)
      | (go_at_call 12
         (with_reducible refine HO.out.mono ?_)
         rintro e w7 ⟨rfl, hb7, o5, o6⟩
         have HB7 := Lib.hid hb7
         clear hb7)
      | fail)
  all_goals
    go_wp2
    go_returns
    exact ⟨rfl, HB7.out⟩
end
end Go.Proofs.YtcjfnfdinhbdlaaGreatDoor
