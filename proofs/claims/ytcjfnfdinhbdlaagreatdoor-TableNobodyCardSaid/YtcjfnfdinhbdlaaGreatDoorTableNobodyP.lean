import Derived.Test.YtcjfnfdinhbdlaaGreatDoorGbu
import Derived.Test.YtcjfnfdinhbdlaaGreatDoorGab
import Derived.Test.YtcjfnfdinhbdlaaGreatDoorCards
import Derived.Test.YtcjfnfdinhbdlaaGreatDoorTie
import Derived.SevenTiedAt
import Derived.BigQuiet
import Derived.Deep.QuietTactic
import Derived.Lib.QuietBelow
import Derived.Deep.DeepCutAuto
import Derived.Deep.CutBlock
namespace Go.Proofs.YtcjfnfdinhbdlaaGreatDoor.tableNobody
open Go.ChangeShapes Go.WideShapes Go.ChangeAt Go.RowKit Go.PlainAid
open Go.ChangeMaps (open_string)
open Go.Sort (grow)
theorem own : ownKnob Tryz.prog.godebug = none := by kernel_rfl
theorem laidOut : laidOutB Tryz.prog = true := by kernel_rfl
attribute [local go_sem ↓ high] load_op store_o
def NbF (ob xb : Nat) (o : OpV) (tv : Option Addr) (v : Value) (l : List Int) (W : World) : Prop :=
  ((loadS 32 (.pointer (some ⟨ob, 0, none⟩))).run Tryz.prog W = .ok (Value.agg #[Value.int .i64 o.id, Value.int .i64 o.proc, Value.int .i64 o.obj, Value.int .i64 o.kind, Value.int .i64 o.meth, Value.int .i64 o.arg, Value.int .i64 o.sec, Value.bool o.done, Value.int .i64 o.res, Value.int .i64 o.inv, Value.int .i64 o.ret]) W ∧ (loadS 32 (.pointer (some ⟨xb, 0, none⟩))).run Tryz.prog W = .ok (Value.agg #[Value.int .i64 0, Value.int .i64 0, Value.int .i64 0, Value.int .i64 0, Value.int .i64 0, Value.int .i64 0, Value.int .i64 0, Value.bool false, Value.int .i64 0, Value.int .i64 0, Value.int .i64 0]) W ∧ W.cell? ⟨ob, 0, none⟩ = some (.int .i64 o.id)) ∧ NoTab W tv ∧ IntsOf W v l
theorem nb_on {ob xb : Nat} {o : OpV} {tv : Option Addr} {v : Value} {l : List Int} {W : World} (ho : OpAt W ob o) (hx : OpAt W xb zeroV) (ht : NoTab W tv) (hi : IntsOf W v l) : ∀ W', Below W.heap.size W W' → NbF ob xb o tv v l W' := fun _ hb =>
  ⟨⟨(ho.on hb).load, (hx.on hb).load, (ho.on hb).cell.1⟩, ht.on hb, hi.on hb⟩
set_option maxRecDepth 100000 in
set_option maxHeartbeats 8000000 in
theorem walk (w : World) (o0 : OpV) (w0 : o0.Wf) (a1 : Int) (w1 : (Lit.int .i64 a1).wf = true) (v2 : Value) (l2 : List Int) (h2 : IntsOf w v2 l2) (hL0 : RulesAt w) :
    Calls Tryz.prog 9 #[Value.agg #[Value.int .i64 o0.id, Value.int .i64 o0.proc, Value.int .i64 o0.obj, Value.int .i64 o0.kind, Value.int .i64 o0.meth, Value.int .i64 o0.arg, Value.int .i64 o0.sec, Value.bool o0.done, Value.int .i64 o0.res, Value.int .i64 o0.inv, Value.int .i64 o0.ret], .int .i64 a1, v2] w fun e w' => e = .returned (.bool true) ∧ Below w.heap.size w w' := by
  have u0 := w0
  clear u0
  obtain ⟨b1, c1⟩ := bounds_i64 w1
  have HR := Lib.hid hL0
  have hb0 : Below w.heap.size w (w.alloc (.cells #[Value.int .i64 o0.id, Value.int .i64 o0.proc, Value.int .i64 o0.obj, Value.int .i64 o0.kind, Value.int .i64 o0.meth, Value.int .i64 o0.arg, Value.int .i64 o0.sec, Value.bool o0.done, Value.int .i64 o0.res, Value.int .i64 o0.inv, Value.int .i64 o0.ret] 32)) := by go_grown
  have q0 := OpAt.box w o0
  have z0 : (w.alloc (.cells #[Value.int .i64 o0.id, Value.int .i64 o0.proc, Value.int .i64 o0.obj, Value.int .i64 o0.kind, Value.int .i64 o0.meth, Value.int .i64 o0.arg, Value.int .i64 o0.sec, Value.bool o0.done, Value.int .i64 o0.res, Value.int .i64 o0.inv, Value.int .i64 o0.ret] 32)).heap.size = w.heap.size + 1 := World.size_alloc _ _
  obtain ⟨W0, hW0⟩ : ∃ W, w.alloc (.cells #[Value.int .i64 o0.id, Value.int .i64 o0.proc, Value.int .i64 o0.obj, Value.int .i64 o0.kind, Value.int .i64 o0.meth, Value.int .i64 o0.arg, Value.int .i64 o0.sec, Value.bool o0.done, Value.int .i64 o0.res, Value.int .i64 o0.inv, Value.int .i64 o0.ret] 32) = W := ⟨_, rfl⟩
  rw [hW0] at hb0 q0 z0
  have g1 := heap_alloc_new W0 (.cells #[.pointer none, .pointer none, .pointer none, .pointer none, .pointer none] 69)
  have hb1 : Below W0.heap.size W0 (W0.alloc (.cells #[.pointer none, .pointer none, .pointer none, .pointer none, .pointer none] 69)) := by go_grown
  have z1 : (W0.alloc (.cells #[.pointer none, .pointer none, .pointer none, .pointer none, .pointer none] 69)).heap.size = w.heap.size + 2 := by rw [World.size_alloc, z0]
  obtain ⟨W1, hW1⟩ : ∃ W, W0.alloc (.cells #[.pointer none, .pointer none, .pointer none, .pointer none, .pointer none] 69) = W := ⟨_, rfl⟩
  rw [hW1] at g1 hb1 z1
  rw [z0] at g1
  have g2 := heap_alloc_new W1 (.cells #[.pointer none, .pointer (some ⟨w.heap.size + 1, 0, none⟩)] 25)
  have hb2 : Below W1.heap.size W1 (W1.alloc (.cells #[.pointer none, .pointer (some ⟨w.heap.size + 1, 0, none⟩)] 25)) := by go_grown
  obtain ⟨W2, hW2⟩ : ∃ W, W1.alloc (.cells #[.pointer none, .pointer (some ⟨w.heap.size + 1, 0, none⟩)] 25) = W := ⟨_, rfl⟩
  rw [hW2] at g2 hb2
  rw [z1] at g2
  have hq2 := (q0.on hb1).on hb2
  have ht2 : NoTab W2 (some ⟨w.heap.size + 1, 0, none⟩) := NoTab.on (.inr ⟨w.heap.size + 1, rfl, by rw [z1]; omega, by rw [cell_of_row _ _ _ _ _ _ g1]; rfl⟩) hb2
  have hi2 := h2.on (hb0.on (hb1.on hb2))
  have HX := Lib.hid (And.intro hq2 (And.intro ht2 (And.intro hi2 (And.intro g2 (hb0.on (hb1.on hb2))))))
  clear hL0 hb0 q0 g1 hb1 hq2 ht2 hi2 g2 hb2 h2
  go_enter Tryz.func9, Tryz.ntmps9
  go_wp2_with fail
  go_loopw [17] (fun s17 wr => ∃ k : Nat, s17 = .int .i64 k ∧ k ≤ 2 ∧ Hid (Below W2.heap.size W2 wr)) (fun s17 _ => 2 - (intOf s17).toNat)
  case atStart => exact ⟨0, rfl, Nat.zero_le _, Lib.hid (Below.refl _ _)⟩
  case round =>
    obtain ⟨k, rfl, hk, HI⟩ := hrel
    by_cases h2 : k < 2
    · obtain ⟨tv, htv⟩ : ∃ tv, tv = (if k = 0 then none else some (⟨w.heap.size + 1, 0, none⟩ : Addr)) := ⟨_, rfl⟩
      have q1 : decide ((k : Int) < 2) = true := decide_eq_true (by omega)
      have q2 : (k : Int) < 2 := by omega
      have q3 : IntKind.i64.wrap ((k : Int) + 1) = (k : Int) + 1 := IntWalk.i64_in _ (by omega)
      have q4 : (0 : Int) ≤ (k : Int) := by omega
      have ho := HX.out.1.on HI.out
      have ht : NoTab wr tv := by
        rw [htv]
        split
        · exact .inl rfl
        · exact HX.out.2.1.on HI.out
      have hi := HX.out.2.2.1.on HI.out
      have c1 : wr.cell? ⟨w.heap.size + 2, k, none⟩ = some (.pointer tv) := by
        rw [cell_of_row _ _ _ _ _ _ ((HI.out.block _ (heap_inO HX.out.2.2.2.1)).trans HX.out.2.2.2.1), htv]
        have : k = 0 ∨ k = 1 := by omega
        rcases this with rfl | rfl <;> rfl
      have c2 := ho.cell.1
      have HG := Lib.hid (tget_no ht o0.id)
      have HK := Lib.hid h2
      have HY := Lib.hid (And.intro ho (And.intro ht hi))
      clear htv hk h2 ho ht hi
      go_wp2_with fail
      refine HG.out.mono ?_
      rintro e w3 ⟨rfl, hb3⟩
      have s3 := store_op_new w3 (#[Value.int .i64 0, Value.int .i64 0, Value.int .i64 0, Value.int .i64 0, Value.int .i64 0, Value.int .i64 0, Value.int .i64 0, Value.bool false, Value.int .i64 0, Value.int .i64 0, Value.int .i64 0]) rfl zeroV
      have hb4 : Below w3.heap.size w3 (w3.alloc (.cells #[Value.int .i64 0, Value.int .i64 0, Value.int .i64 0, Value.int .i64 0, Value.int .i64 0, Value.int .i64 0, Value.int .i64 0, Value.bool false, Value.int .i64 0, Value.int .i64 0, Value.int .i64 0] 32)) := by go_grown
      have x4 : OpAt (w3.alloc (.cells #[Value.int .i64 0, Value.int .i64 0, Value.int .i64 0, Value.int .i64 0, Value.int .i64 0, Value.int .i64 0, Value.int .i64 0, Value.bool false, Value.int .i64 0, Value.int .i64 0, Value.int .i64 0] 32)) w3.heap.size zeroV := OpAt.box w3 zeroV
      dsimp only [zeroV] at s3
      obtain ⟨W4, hW4⟩ : ∃ W, w3.alloc (.cells #[Value.int .i64 0, Value.int .i64 0, Value.int .i64 0, Value.int .i64 0, Value.int .i64 0, Value.int .i64 0, Value.int .i64 0, Value.bool false, Value.int .i64 0, Value.int .i64 0, Value.int .i64 0] 32) = W := ⟨_, rfl⟩
      rw [hW4] at s3 hb4 x4
      have hb34 := hb3.on hb4
      have HF := Lib.hid (nb_on (HY.out.1.on hb34) x4 (HY.out.2.1.on hb34) (HY.out.2.2.on hb34))
      have HB4 := Lib.hid (HI.out.on hb34)
      have HD0 := Lib.hid (Below.refl W4.heap.size W4)
      obtain ⟨⟨d1, d2, d3⟩, _⟩ := HF.out _ HD0.out
      clear hb3 hb4 hb34 x4 c1 c2 HG
      go_wp2_with fail
      refine (tput_no (HF.out _ HD0.out).2.1 o0).mono ?_
      rintro e w5 ⟨rfl, hb5⟩
      have HD1 := Lib.hid (HD0.out.on hb5)
      obtain ⟨⟨e1, e2, e3⟩, _⟩ := HF.out _ HD1.out
      clear hb5
      go_wp2_with fail
      refine (tdel_no (HF.out _ HD1.out).2.1 o0.id).mono ?_
      rintro e w6 ⟨rfl, hb6⟩
      have HD2 := Lib.hid (HD1.out.on hb6)
      obtain ⟨⟨e4, e5, e6⟩, _⟩ := HF.out _ HD2.out
      clear hb6
      go_wp2_with fail
      refine (tList_no (HF.out _ HD2.out).2.1).mono ?_
      rintro e w7 ⟨rfl, hb7⟩
      have HD3 := Lib.hid (HD2.out.on hb7)
      obtain ⟨⟨e7, e8, e9⟩, _⟩ := HF.out _ HD3.out
      clear hb7
      go_wp2_with fail
      refine (tpages_no (HF.out _ HD3.out).2.1).mono ?_
      rintro e w8 ⟨rfl, hb8⟩
      have HD4 := Lib.hid (HD3.out.on hb8)
      obtain ⟨⟨m1, m2, m3⟩, _⟩ := HF.out _ HD4.out
      clear hb8
      go_wp2_with fail
      refine (ttroub_no (HF.out _ HD4.out).2.1).mono ?_
      rintro e w9 ⟨rfl, hb9⟩
      have HD5 := Lib.hid (HD4.out.on hb9)
      obtain ⟨⟨m4, m5, m6⟩, _⟩ := HF.out _ HD5.out
      clear hb9
      go_wp2_with fail
      refine (found_no (HF.out _ HD5.out).2.1 a1 v2 l2 (HF.out _ HD5.out).2.2).mono ?_
      rintro e w10 ⟨rfl, hb10⟩
      have HD6 := Lib.hid (HD5.out.on hb10)
      obtain ⟨⟨m7, m8, m9⟩, _⟩ := HF.out _ HD6.out
      clear hb10
      have HE := Lib.hid (HB4.out.on HD6.out)
      go_wp2_with fail
      go_roundw
      case measure => have := HK.out; simp [intOf]; omega
      case rel => exact ⟨k + 1, by simp, HK.out, HE⟩
    · obtain rfl : k = 2 := by omega
      clear hk h2
      go_wp2_with fail
      refine (tabopen_nil wr).mono ?_
      rintro e w3 ⟨rfl, hb3⟩
      have HB3 := Lib.hid (HX.out.2.2.2.2.on (HI.out.on hb3))
      have HRa := Lib.hid (HR.out.on HB3.out)
      clear hb3
      go_wp2_with fail
      refine (awake13_any w3 HRa.out).mono ?_
      rintro e w4 ⟨rfl, hb4⟩
      have HE := Lib.hid (HB3.out.on hb4)
      clear hb4
      go_wp2_with fail
      go_returns
      exact ⟨rfl, HE.out⟩
set_option maxRecDepth 100000 in
theorem door_met (os : Os) (args : Array Value) : laidMetH Tryz.prog Rows.tableNobodyRow.laid ((World.doorLaid Tryz.prog 400 os).forCall (fun _ _ => 0) ⟨#[], args, []⟩).memory :=
  laidMetH_of_parts3 (fuel := 8) (laidMet_of_run' 8 (by kernel_rfl) (by kernel_rfl)) (by kernel_rfl) (by kernel_rfl)
set_option maxRecDepth 100000 in
theorem lifted (os : Os) (started : os.Started) (H : Type) (enc : TypeId × Value → H) :
    ReturnsInHanded {} Tryz.checked os 9 .any (fun w args => (Rows.tableNobodySpec.pre enc Tryz.prog Tryz.f9 [] false w args ∧ laidMetH Tryz.prog Rows.tableNobodyRow.laid w) ∧ sizedMet enc Tryz.prog Tryz.f9 (OpenSpec.ofChange Rows.tableNobodySpec) false w args) (Rows.tableNobodySpec.post enc Tryz.prog Tryz.f9 false true false false) := by
  refine law_lift_laid (C := Tryz.checked) own started (by kernel_rfl) Tryz.func9 laidOut (by kernel_rfl) rfl Tryz.underlying4 rfl
    (fun ds h => match ds, h with | [_, _, _], _ => rfl)
    (ChangeSpec.witness_shaped (enc := enc) (C := Tryz.checked) (os := os) (X := fun w _ => laidMetH Tryz.prog Rows.tableNobodyRow.laid w) false (World.doorLaid Tryz.prog 400 os) #[.agg #[.int .i64 0, .int .i64 0, .int .i64 0, .int .i64 0, .int .i64 0, .int .i64 0, .int .i64 0, .bool false, .int .i64 0, .int .i64 0, .int .i64 0], .int .i64 0, .slice none 0 0] 8 rfl (World.shaped_of_RefB (by kernel_rfl) (by kernel_rfl)) (by kernel_rfl) (by kernel_rfl) (by kernel_rfl) (door_met os _)) ?_
  intro W base args ds ps hval hA hsz hL
  rw [Tryz.params9] at hA hval hsz
  obtain ⟨v0, vs0, d0, ds0, p0, q0, hargs, rfl, rfl, h0, r0⟩ := trodAll_cons hA
  obtain ⟨v1, vs1, d1, ds1, p1, q1, rfl, rfl, rfl, h1, r1⟩ := trodAll_cons r0
  obtain ⟨v2, vs2, d2, ds2, p2, q2, rfl, rfl, rfl, h2, r2⟩ := trodAll_cons r1
  obtain ⟨rfl, rfl, rfl⟩ := trodAll_nil r2
  obtain rfl : args = #[v0, v1, v2] := by cases args; simp_all
  obtain ⟨o0, rfl, w0⟩ := op_open (hval 0 32 v0 rfl rfl) h0
  obtain ⟨a1, rfl, rfl, rfl, w1⟩ := open_int Tryz.underlying3 (hval 1 3 v1 rfl rfl) h1
  obtain ⟨l2, hl2⟩ := ints_open (hval 2 39 v2 rfl rfl) h2
  exact walk W o0 w0 a1 w1 v2 l2 hl2 (rules_of_laid (by kernel_rfl) (by simp [Rows.tableNobodyRow]) hL)
theorem over : Rows.tableNobodyRow.holds Tryz.pinned (OpenSpec.ofChange Rows.tableNobodySpec) :=
  OpenClaim.holds_of_wide 9 Tryz.f9 rfl rfl rfl rfl rfl rfl rfl ⟨rfl, rfl, rfl, rfl, rfl⟩ rfl rfl rfl rfl rfl (by kernel_rfl) Tryz.func9 (by kernel_rfl)
    (of_decide_eq_true (by kernel_rfl)) (by unfold Func.isWrapper; first | (rw [if_pos (by decide +kernel)]; kernel_rfl) | (rw [if_neg (by decide +kernel)]; exact ⟨rfl, rfl⟩))
    (fun os started H enc _ => lifted os started H enc)
theorem proved : Rows.TableNobodyCardSaid :=
  Claim7.holds_tied_plain_at (c := Rows.tableNobodyRow) .later [] [.data] true _ _ over (fun _ h => by cases h) (by kernel_rfl) (fun _ h => by cases h) tableNobody_row_tie rfl ⟨rfl, rfl⟩ (by kernel_rfl) rfl
    (fun f fn hf hfn => by
      obtain rfl : f = 9 := Option.some.inj ((show Tryz.prog.funcNamed "annalist/annalistlaw13.TableNobody" = some 9 by kernel_rfl).symm.trans hf) |>.symm
      obtain rfl : fn = Tryz.f9 := (Option.some.inj (Tryz.func9.symm.trans hfn)).symm
      exact ⟨by kernel_rfl, fun j t ht => by
        have hall : (Tryz.f9.params.toList.all fun u => !Tryz.prog.wantsStandIn u) = true := by kernel_rfl
        have hm : t ∈ Tryz.f9.params.toList := by simpa using Array.mem_of_getElem? ht
        exact (show Tryz.prog.wantsStandIn t = false by simpa using List.all_eq_true.1 hall t hm)⟩)
    (by kernel_rfl)
end Go.Proofs.YtcjfnfdinhbdlaaGreatDoor.tableNobody
