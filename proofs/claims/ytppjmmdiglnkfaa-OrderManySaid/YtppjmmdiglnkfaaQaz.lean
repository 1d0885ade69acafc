/- Package order: goesOn. Package order: ends. -/
import Derived.Test.YtppjmmdiglnkfaaQay
namespace Go.Proofs.Ytppjmmdiglnkfaa
set_option maxRecDepth 100000
open Go.ChangeShapes Go.WideShapes Go.ChangeAt Go.RowKit Go.PlainAid Go.Deep
namespace Od
open Ln
attribute [local go_sem ↓ high] load_op app_intI store_o
/-- What ends answers, with so much fuel. -/
def EndsC (n₁ bS bM : Nat) (lim : Int) (v : Value) (P : List (List OpV)) (f : Nat) : Prop := ∀ (w : World) (s : Stt) (x : Spo), SoAt n₁ bS bM lim v P w s → SpOk P x f → mu P x < f → s.seen.length + (P.length - x.1) ≤ 1000000 → s.back.length + f ≤ 1000000 →
  Calls Try.prog 33 #[.pointer (some ⟨bS, 0, none⟩), .agg (soC x)] w fun e w' => e = .returned (.bool (endsF lim P f s x).2) ∧ SoAt n₁ bS bM lim v P w' (endsF lim P f s x).1 ∧ FrO n₁ bS bM w w'
/-- What goesOn has in memory. -/
structure GoI (n₁ bS bM : Nat) (lim : Int) (v : Value) (P : List (List OpV)) (f : Nat) (u : Value) (l : List OpV) (x : Spo) (w : World) (s0 : Stt) (i : Nat) (wr : World) (s : Stt) : Prop where
  ops : OpsOwn 0 wr u l
  so : SoAt n₁ bS bM lim v P wr s
  fr : FrO n₁ bS bM w wr
  box : wr.heap[w.heap.size]? = some (.cells (soC x) 75 (0, 0))
  is : goL lim (endsF lim P f) l x (List.range' i (l.length - i)) s = goL lim (endsF lim P f) l x (List.range' 0 l.length) s0
  back : s.back = s0.back
theorem range_cons {i n : Nat} (h : i < n) : List.range' i (n - i) = i :: List.range' (i + 1) (n - (i + 1)) := by
  rw [show n - i = (n - (i + 1)) + 1 by omega, List.range'_succ]
theorem GoI.on {n₁ bS bM : Nat} {lim : Int} {v : Value} {P : List (List OpV)} {f : Nat} {u : Value} {l : List OpV} {x : Spo} {w : World} {s0 : Stt} {i : Nat} {wr w' : World} {s : Stt} (h : GoI n₁ bS bM lim v P f u l x w s0 i wr s) (hb : Below wr.heap.size wr w') : GoI n₁ bS bM lim v P f u l x w s0 i w' s :=
  ⟨h.ops.on hb, h.so.on hb, h.fr.trans (FrO.of hb), (hb.block _ (heap_inO h.box)).trans h.box, h.is, h.back⟩
/-- Behind an operation that leads nowhere. -/
theorem GoI.skip {n₁ bS bM : Nat} {lim : Int} {v : Value} {P : List (List OpV)} {f : Nat} {u : Value} {l : List OpV} {x : Spo} {w : World} {s0 : Stt} {i : Nat} {wr : World} {s : Stt} (h : GoI n₁ bS bM lim v P f u l x w s0 i wr s) (hi : i < l.length) (hs : ¬ lim < (s.seen.length : Int)) (hp : stepP l x i = none) : GoI n₁ bS bM lim v P f u l x w s0 (i + 1) wr s :=
  ⟨h.ops, h.so, h.fr, h.box, by rw [← h.is, range_cons hi, goL_skip hs hp], h.back⟩
/-- Behind a call that found nothing. -/
theorem GoI.next {n₁ bS bM : Nat} {lim : Int} {v : Value} {P : List (List OpV)} {f : Nat} {u : Value} {l : List OpV} {x : Spo} {w : World} {s0 : Stt} {i : Nat} {wr w' : World} {s : Stt} (h : GoI n₁ bS bM lim v P f u l x w s0 i wr s) (hi : i < l.length) (hs : ¬ lim < (s.seen.length : Int)) {y : Spo} (hp : stepP l x i = some y) (he : (endsF lim P f s y).2 = false) (hso : SoAt n₁ bS bM lim v P w' (endsF lim P f s y).1) (hfr : FrO n₁ bS bM wr w') : GoI n₁ bS bM lim v P f u l x w s0 (i + 1) w' (endsF lim P f s y).1 := by
  exact ⟨h.so.opsK hfr h.ops, hso, h.fr.trans hfr, h.so.cells hfr h.box (by decide) (by decide), by rw [← h.is, range_cons hi, goL_no hs hp he], ((ends_back lim P f s y).1 he).trans h.back⟩
theorem step_spok {P : List (List OpV)} {x y : Spo} {i f : Nat} (h : SpOk P x (f + 1)) (hl : x.1 < P.length) (hw : ∀ l ∈ P, l.length ≤ 16) (hs : stepP (pieceAt P x.1) x i = some y) (hy : Okz y.2.2) : SpOk P y f := by
  unfold stepP at hs
  obtain ⟨q, hq, rfl⟩ := Option.map_eq_some_iff.1 hs
  have hmem : pieceAt P x.1 ∈ P := by
    unfold pieceAt
    rw [List.getElem?_eq_getElem hl]
    exact List.getElem_mem hl
  have hlen := h.len
  refine ⟨h.le, nx1_mk (l := pieceAt P x.1) (p := x.2) (hw _ hmem) h.msk hq, hy, ?_⟩
  obtain ⟨hm, o, t, ho, hst, rfl⟩ := nx1_some hq
  unfold stO at hst
  split at hst
  · obtain rfl := Option.some.inj hst
    have h1 := stepC_len o x.2.2
    simp only
    omega
  · cases hst
theorem PcsOf.few {w : World} {v : Value} {P : List (List OpV)} (h : PcsOf w v P) : ∀ l ∈ P, l.length ≤ 16 := fun l hl => by
  obtain ⟨k, hk⟩ := List.getElem?_of_mem hl
  obtain ⟨b, cap, ao, co, ba, ah, dn, hp⟩ := h.at hk
  exact hp.few
set_option maxHeartbeats 8000000 in
theorem goesOn_any {n₁ bS bM : Nat} {lim : Int} {v : Value} {P : List (List OpV)} {f : Nat} (hE : EndsC n₁ bS bM lim v P f) (hid : ∀ l ∈ P, ∀ o ∈ l, o.Wf) (hlim : lim ≤ 32768) (hP : P.length ≤ 100000) {w : World} {s : Stt} (h : SoAt n₁ bS bM lim v P w s) {x : Spo} (hx : SpOk P x (f + 1)) (hlt : x.1 < P.length) (hmu : mu P x < f + 1) (hbk : s.back.length + f ≤ 1000000) :
    Calls Try.prog 63 #[.pointer (some ⟨bS, 0, none⟩), .agg (soC x)] w fun e w' => e = .returned (.bool (goL lim (endsF lim P f) (pieceAt P x.1) x (List.range' 0 (pieceAt P x.1).length) s).2) ∧ SoAt n₁ bS bM lim v P w' (goL lim (endsF lim P f) (pieceAt P x.1) x (List.range' 0 (pieceAt P x.1).length) s).1 ∧ FrO n₁ bS bM w w' := by
  obtain ⟨l, hl⟩ : ∃ l, P[x.1]? = some l := ⟨_, List.getElem?_eq_getElem hlt⟩
  have hpl : pieceAt P x.1 = l := by unfold pieceAt; rw [hl]; rfl
  obtain ⟨k, m, st⟩ := x
  simp only at hl hlt hpl
  rw [show pieceAt P (k, m, st).1 = l from hpl]
  have hbw : Below w.heap.size w (w.alloc (.cells (soC (k, m, st)) 75)) := by go_grown
  have hbx := heap_alloc_new w (.cells (soC (k, m, st)) 75)
  obtain ⟨W1, hW1⟩ : ∃ W, w.alloc (.cells (soC (k, m, st)) 75) = W := ⟨_, rfl⟩
  have hW1' := hW1
  unfold soC at hW1'
  simp only at hW1'
  rw [hW1] at hbw hbx
  have hd : Below W1.heap.size W1 W1.drew := (Below.refl _ _).drew
  have hS := (h.on hbw).on hd
  obtain ⟨b, cap, ao, co, ba, ah, dn, hp⟩ := hS.pcs.at hl
  obtain ⟨vb, c0, _, _, _, _, _, hlb⟩ := hS.rd
  obtain rfl := hp.row
  have q1 : (k : Int) < (P.length : Int) := by omega
  have q2 : (0 : Int) ≤ k := by omega
  have d0 := hp.c0
  have hbx1 : W1.drew.heap[w.heap.size]? = some (.cells (soC (k, m, st)) 75 (0, 0)) := hbx
  have hbx2 := hbx1
  unfold soC at hbx2
  have e0 : W1.drew.cell? ⟨w.heap.size, 0, none⟩ = some (.int .i64 (k : Int)) := by rw [cell_of_row _ _ _ _ _ _ hbx2]; rfl
  have hfew := hp.few
  have HP := Lib.hid hp
  have HI0 := Lib.hid (show GoI n₁ bS bM lim (.slice (some ⟨b, 0, none⟩) P.length cap) P f (.slice ao l.length co) l (k, m, st) w s 0 W1.drew s from ⟨hp.own, hS, FrO.of (hbw.on hd), hbx1, by rw [Nat.sub_zero], rfl⟩)
  have HE := Lib.hid hE
  have HX := Lib.hid hx
  have HMU := Lib.hid hmu
  have HID := Lib.hid hid
  have HL := Lib.hid hl
  have HPL := Lib.hid hpl
  clear h hS hp hx hmu hE hid hl hpl hbx hbx1 hbx2 hbw hd hW1
  unfold soC
  go_enter Try.func63, Try.ntmps63
  go_wp2_with fail
  go_region
  go_wp2_with fail
  go_loopw [19] (fun s19 wr => ∃ (i : Nat), s19 = .int .i64 i ∧ i ≤ l.length ∧ Hid (∃ s', GoI n₁ bS bM lim (.slice (some ⟨b, 0, none⟩) P.length cap) P f (.slice ao l.length co) l (k, m, st) w s i wr s')) (fun s19 _ => l.length - (intOf s19).toNat)
  case atStart => exact ⟨0, rfl, Nat.zero_le _, Lib.hid ⟨s, HI0.out⟩⟩
  case round =>
    clear HI0 d0 e0 c0
    obtain ⟨i, rfl, hi, HI⟩ := hrel
    obtain ⟨s', hI⟩ := HI.out
    have HI := Lib.hid hI
    clear hI
    rename World => wq
    by_cases hil : i < l.length
    · have q3 : (i : Int) < (l.length : Int) := by omega
      have q4 : (0 : Int) ≤ i := by omega
      have q5 : IntKind.i64.wrap ((i : Int) + 1) = (i : Int) + 1 := IntWalk.i64_in _ (by omega)
      obtain ⟨o, hoi⟩ : ∃ o, l[i]? = some o := ⟨_, List.getElem?_eq_getElem hil⟩
      have hwl : ∀ o ∈ l, o.Wf := HID.out l (List.mem_of_getElem? HL.out)
      obtain ⟨bo, po, cpo, hv, hbo, hwf, hco⟩ := OpsOf.at (HI.out.ops.reads hwl) hoi
      obtain ⟨rfl, _, rfl⟩ := Value.slice.inj hv
      have l1 := load_cellsO (w := wq) (p := po + i * 11) hco
      have st1 := store_op_new wq (#[Value.int .i64 0, Value.int .i64 0, Value.int .i64 0, Value.int .i64 0, Value.int .i64 0, Value.int .i64 0, Value.int .i64 0, Value.bool false, Value.int .i64 0, Value.int .i64 0, Value.int .i64 0]) rfl o
      have hbw : Below wq.heap.size wq (wq.alloc (.cells #[Value.int .i64 o.id, Value.int .i64 o.proc, Value.int .i64 o.obj, Value.int .i64 o.kind, Value.int .i64 o.meth, Value.int .i64 o.arg, Value.int .i64 o.sec, Value.bool o.done, Value.int .i64 o.res, Value.int .i64 o.inv, Value.int .i64 o.ret] 43)) := by go_grown
      have hop := OpAt.box wq o
      obtain ⟨W2, hW2⟩ : ∃ W, wq.alloc (.cells #[Value.int .i64 o.id, Value.int .i64 o.proc, Value.int .i64 o.obj, Value.int .i64 o.kind, Value.int .i64 o.meth, Value.int .i64 o.arg, Value.int .i64 o.sec, Value.bool o.done, Value.int .i64 o.res, Value.int .i64 o.inv, Value.int .i64 o.ret] 43) = W := ⟨_, rfl⟩
      rw [hW2] at hop st1 hbw
      have HI2 := Lib.hid (HI.out.on hbw)
      have HOP := Lib.hid hop
      have HOI := Lib.hid hoi
      have HWF := Lib.hid hwf
      have HQ := Lib.hid (And.intro q3 q5)
      clear hv hco hbo hbw hwl hop hoi hwf HI
      go_wp2_with fail
      refine (spent_any HI2.out.so).mono ?_
      rintro _ w3 ⟨rfl, hb3⟩
      have HI3 := Lib.hid (HI2.out.on hb3)
      have hop3 : OpAt w3 wq.heap.size o := HOP.out.on hb3
      have HOP3 := Lib.hid hop3
      clear hb3 HI2 hop3 l1 st1 hW2
      by_cases hs : lim < (s'.seen.length : Int)
      · rw [decide_eq_true hs]
        have HF := Lib.hid (goL_over (E := endsF lim P f) (l := l) (x := (k, m, st)) hs (List.range' i (l.length - i)))
        clear hs
        go_wp2_with fail
        go_returns
        have he := HI3.out.is.symm.trans HF.out
        exact ⟨by rw [he]; rfl, by rw [he]; exact HI3.out.so, HI3.out.fr⟩
      · rw [decide_eq_false hs]
        have HSS := Lib.hid hs
        have hbx3 := HI3.out.box
        unfold soC at hbx3
        have e0 : w3.cell? ⟨w.heap.size, 0, none⟩ = some (.int .i64 (k : Int)) := by rw [cell_of_row _ _ _ _ _ _ hbx3]; rfl
        have e1 : w3.cell? ⟨w.heap.size, 1, none⟩ = some (.int .u32 (m : Int)) := by rw [cell_of_row _ _ _ _ _ _ hbx3]; rfl
        have e2 : w3.cell? ⟨w.heap.size, 2, none⟩ = some (.string (textS st)) := by rw [cell_of_row _ _ _ _ _ _ hbx3]; rfl
        have HST := Lib.hid (step_any HI3.out.so HX.out HL.out hil)
        unfold soC at HST
        clear hs hbx3
        go_wp2_with fail
        refine HST.out.mono ?_
        rintro _ w4 ⟨u, ok, rfl, hr, hb4⟩
        have HI4 := Lib.hid (HI3.out.on hb4)
        have HOP4 := Lib.hid (HOP3.out.on hb4)
        clear hb4 HST e0 e1 e2 HI3 HOP3
        cases hsp : stepP l (k, m, st) i with
        | none =>
          unfold StepR at hr
          rw [hsp] at hr
          obtain ⟨rfl, rfl⟩ := hr
          have HSP := Lib.hid hsp
          clear hsp
          unfold zSo
          have hbA : Below w4.heap.size w4 (w4.alloc (.cells #[.int .i64 0, .int .u32 0, .string ⟨#[]⟩] 75)) := by go_grown
          have HN := Lib.hid ((HI4.out.on hbA).skip hil (Int.not_lt.2 HSS.out) HSP.out)
          clear hbA
          go_wp2_with fail
          go_roundw
          case measure => simp [intOf] <;> omega
          case rel => exact ⟨i + 1, by simp, by omega, Lib.hid ⟨s', HN.out⟩⟩
        | some y =>
          unfold StepR at hr
          rw [hsp] at hr
          obtain ⟨rfl, rfl, hok⟩ := hr
          have HSP := Lib.hid hsp
          have HOK := Lib.hid hok
          clear hsp hok
          have hbA : Below w4.heap.size w4 (w4.alloc (.cells (soC y) 75)) := by go_grown
          have HI5 := Lib.hid (HI4.out.on hbA)
          have HOP5 := Lib.hid (HOP4.out.on hbA)
          have hsp2 : stepP (pieceAt P (k, m, st).1) (k, m, st) i = some y := by rw [show pieceAt P (k, m, st).1 = l from HPL.out]; exact HSP.out
          have hms := mu_step (x := (k, m, st)) hlt hsp2
          have hsp3 := step_spok HX.out hlt HI5.out.so.pcs.few hsp2 HOK.out
          have hss : ¬ lim < (s'.seen.length : Int) := Int.not_lt.2 HSS.out
          have hbb := HI5.out.back
          have HEC := Lib.hid (HE.out _ s' y HI5.out.so hsp3 (by have := HMU.out; omega) (by omega) (by rw [hbb]; exact hbk))
          clear hbA hsp2 hms hsp3 hss hbb HI4 HOP4
          unfold soC at HEC ⊢
          go_wp2_with fail
          refine HEC.out.mono ?_
          rintro _ w5 ⟨rfl, hso5, hfr5⟩
          clear HEC
          have hop5 : OpAt w5 wq.heap.size o := HI5.out.so.cells hfr5 HOP5.out (by decide) (by decide)
          cases he : (endsF lim P f s' y).2 with
          | false =>
            have HN := Lib.hid (HI5.out.next hil (Int.not_lt.2 HSS.out) HSP.out he hso5 hfr5)
            clear hso5 hfr5 he hop5
            go_wp2_with fail
            go_roundw
            case measure => simp [intOf] <;> omega
            case rel => exact ⟨i + 1, by simp, by omega, Lib.hid ⟨_, HN.out⟩⟩
          | true =>
            have hd5 : Below w5.heap.size w5 w5.drew := (Below.refl _ _).drew
            have hid := HWF.out.id
            have hb5 := (ends_back lim P f s' y).2
            have hb6 : s'.back.length = s.back.length := by rw [HI5.out.back]
            obtain ⟨vb5, v6, w6, c5, ⟨a5, p5, rfl⟩, r6, ⟨a6, p6, rfl⟩, d6, f6, hso6, hfr6⟩ := (hso5.on hd5).push o.id hid (by omega)
            have e5 : w5.drew.cell? ⟨wq.heap.size, 0, none⟩ = some (.int .i64 o.id) := (hop5.on hd5).cell.1
            have hal : Below w5.heap.size w5 (w5.alloc (.cells #[.int .i64 o.id] 3)).drew := (show Below w5.heap.size w5 (w5.alloc (.cells #[.int .i64 o.id] 3)) by go_grown).drew
            have e6 : (w5.alloc (.cells #[.int .i64 o.id] 3)).drew.cell? ⟨wq.heap.size, 0, none⟩ = some (.int .i64 o.id) := (hop5.on hal).cell.1
            have r7 : (appII #[.slice a5 (endsF lim P f s' y).1.back.length p5, .slice (some ⟨w5.heap.size, 0, none⟩) 1 1]).run Try.prog (w5.alloc (.cells #[.int .i64 o.id] 3)).drew = .ok (.slice a6 ((endsF lim P f s' y).1.back.length + 1) p6) w6 := r6
            have hbs5 : bS < w5.heap.size := by obtain ⟨_, _, _, _, _, _, _, hh⟩ := hso5.rd; exact hh
            have c7 : (w5.alloc (.cells #[.int .i64 o.id] 3)).drew.cell? ⟨bS, 4, none⟩ = some (.slice a5 (endsF lim P f s' y).1.back.length p5) := (hal.cell (p := ⟨bS, 4, none⟩) hbs5).trans c5
            have HG := Lib.hid ((goL_yes (l := l) (x := (k, m, st)) (r := List.range' (i + 1) (l.length - (i + 1))) (Int.not_lt.2 HSS.out) HSP.out he))
            have HF := Lib.hid (HI5.out.fr.trans (hfr5.trans ((FrO.of hd5).trans hfr6)))
            have HSO := Lib.hid hso6
            clear hso5 hfr5 he hd5 hid hb5 hb6 hso6 hfr6 hop5 hal hbs5 r6
            go_wp2_with fail
            go_region
            go_wp2_with fail
            go_returns
            have hg := HI5.out.is.symm
            rw [range_cons hil, HG.out] at hg
            have hoid : idAt l i = o.id := by unfold idAt; rw [HOI.out]
            rw [hoid] at hg
            exact ⟨by rw [hg]; rfl, by rw [hg]; exact HSO.out, HF.out⟩
    · obtain rfl : i = l.length := by omega
      have q3 : ¬ ((l.length : Int) < (l.length : Int)) := by omega
      go_wp2_with fail
      go_returns
      have he := HI.out.is
      rw [Nat.sub_self] at he
      rw [show goL lim (endsF lim P f) l (k, m, st) (List.range' l.length 0) s' = (s', false) from rfl] at he
      exact ⟨by rw [← he]; rfl, by rw [← he]; exact HI.out.so, HI.out.fr⟩
end Od
end Go.Proofs.Ytppjmmdiglnkfaa
namespace Go.Proofs.Ytppjmmdiglnkfaa
set_option maxRecDepth 100000
open Go.ChangeShapes Go.WideShapes Go.ChangeAt Go.RowKit Go.PlainAid Go.Deep
namespace Od
open Ln
theorem bury_few {s t : Stt} {x : Spo} (h : Gr (s.meet x) t) (hf : s.dead.length ≤ s.seen.length) : t.dead.length < t.seen.length := by
  have h1 := h.few
  have h2 := h.len
  have e : (s.meet x).seen.length = s.seen.length + 1 := rfl
  have e2 : (s.meet x).dead.length = s.dead.length := rfl
  omega
theorem tell_yes (x : Spo) (r : Stt × Bool) (h : r.2 = true) : tellP x r = r := by unfold tellP; rw [if_pos h]
theorem tell_no (x : Spo) (r : Stt × Bool) (h : r.2 = false) : tellP x r = (r.1.bury x, false) := by unfold tellP; rw [if_neg (by rw [h]; decide)]
set_option maxHeartbeats 8000000 in
theorem ends_step {n₁ bS bM : Nat} {lim : Int} {v : Value} {P : List (List OpV)} {f : Nat} (hE : EndsC n₁ bS bM lim v P f) (hid : ∀ l ∈ P, ∀ o ∈ l, o.Wf) (hlim : lim ≤ 32768) (hP : P.length ≤ 100000) : EndsC n₁ bS bM lim v P (f + 1) := by
  intro w s x h hx hmu hsn hbk
  obtain ⟨k, m, st⟩ := x
  simp only at hsn
  have hbw : Below w.heap.size w (w.alloc (.cells (soC (k, m, st)) 75)) := by go_grown
  have hbx := heap_alloc_new w (.cells (soC (k, m, st)) 75)
  obtain ⟨W1, hW1⟩ : ∃ W, w.alloc (.cells (soC (k, m, st)) 75) = W := ⟨_, rfl⟩
  have hW1' := hW1
  unfold soC at hW1'
  simp only at hW1'
  rw [hW1] at hbw hbx
  have hd : Below W1.heap.size W1 W1.drew := (Below.refl _ _).drew
  have hS := (h.on hbw).on hd
  obtain ⟨ao, cap, rfl⟩ := hS.pcs.len
  obtain ⟨vb, c0, c1, c2, c3, c4, _, hlb⟩ := hS.rd
  have hbx1 : W1.drew.heap[w.heap.size]? = some (.cells (soC (k, m, st)) 75 (0, 0)) := hbx
  have hbx2 := hbx1
  unfold soC at hbx2
  have e0 : W1.drew.cell? ⟨w.heap.size, 0, none⟩ = some (.int .i64 (k : Int)) := by rw [cell_of_row _ _ _ _ _ _ hbx2]; rfl
  have HS := Lib.hid hS
  have HX := Lib.hid hx
  have HE := Lib.hid hE
  have HID := Lib.hid hid
  have HMU := Lib.hid hmu
  have HBX := Lib.hid hbx1
  have HFR := Lib.hid (FrO.of (n₁ := n₁) (bS := bS) (bM := bM) (hbw.on hd))
  clear h hS hx hE hid hmu hbx hbx1 hbx2 hbw hd hW1 c1 c2 c3 c4
  by_cases hk : k = P.length
  · have q1 : ((k : Int) == (P.length : Int)) = true := by rw [hk]; simp
    have HG := Lib.hid (ends_end (lim := lim) (f := f) (s := s) (show (k, m, st).1 = P.length from hk))
    clear hk
    unfold soC
    go_enter Try.func33, Try.ntmps33
    go_wp2_with fail
    go_region
    go_wp2_with fail
    go_returns
    exact ⟨by rw [HG.out]; rfl, by rw [HG.out]; exact HS.out, HFR.out⟩
  have hkl : k < P.length := by have := HX.out.le; simp only at this; omega
  have q1 : ((k : Int) == (P.length : Int)) = false := by
    refine beq_eq_false_iff_ne.2 fun c => hk (by omega)
  have q2 : (k : Int) < (P.length : Int) := by omega
  have q3 : (0 : Int) ≤ k := by omega
  have HK := Lib.hid hk
  clear hk
  unfold soC
  go_enter Try.func33, Try.ntmps33
  go_wp2_with fail
  go_region
  clear e0 c0
  obtain ⟨D, hD⟩ : ∃ D, W1.drew = D := ⟨_, rfl⟩
  rw [hD] at HS HBX HFR hlb ⊢
  clear hD hW1'
  obtain ⟨bb, hbb⟩ : ∃ bb : Bool, bb = true ↔ (k, m, st) ∈ s.dead := ⟨@decide _ (Classical.propDecidable _), @decide_eq_true_iff _ (Classical.propDecidable _)⟩
  have rdx : ∀ W, Below D.heap.size D W → (Instr.lookup 63 (.map (some bM)) (.agg #[.int .i64 (k : Int), .int .u32 (m : Int), .string (textS st)]) true).run Try.prog W = .ok (.tuple #[.agg #[], .bool bb]) W ∧ W.cell? ⟨bS, 1, none⟩ = some (.map (some bM)) ∧ W.cell? ⟨w.heap.size, 0, none⟩ = some (.int .i64 (k : Int)) ∧ W.cell? ⟨w.heap.size, 1, none⟩ = some (.int .u32 (m : Int)) ∧ W.cell? ⟨w.heap.size, 2, none⟩ = some (.string (textS st)) := fun W hb => by
    have hS := HS.out.on hb
    obtain ⟨b, hlk, hbi⟩ := hS.look HX.out hP
    obtain ⟨vb2, c0, c1, c2, c3, c4, _, hlb2⟩ := hS.rd
    have hbx2 := (hb.block _ (heap_inO HBX.out)).trans HBX.out
    have e : b = bb := Bool.eq_iff_iff.2 (hbi.trans hbb.symm)
    rw [e] at hlk
    unfold soC at hbx2 hlk
    exact ⟨hlk, c1, by rw [cell_of_row _ _ _ _ _ _ hbx2]; rfl, by rw [cell_of_row _ _ _ _ _ _ hbx2]; rfl, by rw [cell_of_row _ _ _ _ _ _ hbx2]; rfl⟩
  obtain ⟨u0, u1, u2, u3, u4⟩ := rdx D.drew (Below.refl _ _).drew
  have hd : Below D.heap.size D (D.alloc (.cells #[] 102)).drew := (show Below D.heap.size D (D.alloc (.cells #[] 102)) by go_grown).drew
  obtain ⟨x0, x1, x2, x3, x4⟩ := rdx _ hd
  have HS2 := Lib.hid (HS.out.on hd)
  have HFR2 := Lib.hid (HFR.out.trans (FrO.of hd))
  have HBX2 := Lib.hid ((hd.block _ (heap_inO HBX.out)).trans HBX.out)
  have HBB := Lib.hid hbb
  have hlb3 : bS < (D.alloc (.cells #[] 102)).drew.heap.size := Nat.lt_of_lt_of_le hlb hd.size
  clear rdx hd hbb hlb
  go_wp2_with fail
  go_region
  all_goals
    generalize (D.alloc (.cells #[] 102)).drew = D3 at HS2 HFR2 HBX2 hlb3 ⊢
    clear u0 u1 u2 u3 u4 x0 x1 x2 x3 x4 HS HFR HBX
    cases bb with
    | true =>
      have HG := Lib.hid (ends_dead (lim := lim) (f := f) (show (k, m, st).1 ≠ P.length from HK.out) (HBB.out.1 rfl))
      clear hlb3
      go_wp2_with fail
      go_returns
      exact ⟨by rw [HG.out]; rfl, by rw [HG.out]; exact HS2.out, HFR2.out⟩
    | false =>
      have HND := Lib.hid (show (k, m, st) ∉ s.dead from fun c => by have := HBB.out.2 c; cases this)
      obtain ⟨hmt, hmf⟩ := HS2.out.met (k, m, st)
      obtain ⟨_, _, _, c2, _⟩ := HS2.out.rd
      have f2 : D3.frozen? ⟨bS, 2, none⟩ = false := by obtain ⟨_, e, _⟩ := HS2.out.bs; exact cells_thaw e 2
      have q4 : IntKind.i64.wrap ((s.seen.length : Int) + 1) = (s.seen.length : Int) + 1 := IntWalk.i64_in _ (by omega)
      have hx4 : (D3.setCell ⟨bS, 2, none⟩ (.int .i64 ((s.seen.length : Int) + 1))).heap[w.heap.size]? = some (.cells (soC (k, m, st)) 75 (0, 0)) := HS2.out.cells hmf HBX2.out (by decide) (by decide)
      have HS4 := Lib.hid hmt
      have HFR4 := Lib.hid (HFR2.out.trans hmf)
      have HX4 := Lib.hid hx4
      clear hmt hmf hx4
      go_wp2_with fail
      clear c2 f2 q4 hlb3
      generalize D3.setCell ⟨bS, 2, none⟩ (.int .i64 ((s.seen.length : Int) + 1)) = D4 at HS4 HFR4 HX4 ⊢
      obtain ⟨l, hl⟩ : ∃ l, P[k]? = some l := ⟨_, List.getElem?_eq_getElem hkl⟩
      have hpl : pieceAt P k = l := by unfold pieceAt; rw [hl]; rfl
      have hd4 : Below D4.heap.size D4 D4.drew := (Below.refl _ _).drew
      have hS5 := HS4.out.on hd4
      obtain ⟨b, cap', ao', co, ba, ah, dn, hp⟩ := hS5.pcs.at hl
      obtain ⟨rfl, _, rfl⟩ := Value.slice.inj hp.row
      obtain ⟨_, c0, _⟩ := hS5.rd
      have d2 := hp.c2
      have hx5 := (hd4.block _ (heap_inO HX4.out)).trans HX4.out
      have HX5 := Lib.hid hx5
      unfold soC at hx5
      have e0 : D4.drew.cell? ⟨w.heap.size, 0, none⟩ = some (.int .i64 (k : Int)) := by rw [cell_of_row _ _ _ _ _ _ hx5]; rfl
      have e1 : D4.drew.cell? ⟨w.heap.size, 1, none⟩ = some (.int .u32 (m : Int)) := by rw [cell_of_row _ _ _ _ _ _ hx5]; rfl
      have e2 : D4.drew.cell? ⟨w.heap.size, 2, none⟩ = some (.string (textS st)) := by rw [cell_of_row _ _ _ _ _ _ hx5]; rfl
      have hex := exit_dn hp.dnk m
      have HS5 := Lib.hid hS5
      have HFR5 := Lib.hid (HFR4.out.trans (FrO.of hd4))
      have HPL := Lib.hid hpl
      have hb5 : ∀ x : Stt, True := fun _ => trivial
      clear hS5 hp hx5 hd4 hl hpl hb5
      cases he : exitB l m with
      | true =>
        have q5 : (bits .andNot .u32 (dn : Int) (m : Int) == 0) = true := by rw [andNot_u32, hex.2 he]; rfl
        have HG := Lib.hid (ends_up (lim := lim) (f := f) (show (k, m, st).1 ≠ P.length from HK.out) HND.out (by rw [show pieceAt P (k, m, st).1 = l from HPL.out]; exact he))
        have q6 : IntKind.i64.wrap ((k : Int) + 1) = (k : Int) + 1 := IntWalk.i64_in _ (by omega)
        have hmu := mu_up (x := (k, m, st)) hkl
        have HEC := Lib.hid (HE.out D4.drew (s.meet (k, m, st)) (k + 1, 0, st) HS5.out ⟨by simp only; omega, by simp, HX.out.ok, by have := HX.out.len; simp only at this ⊢; omega⟩ (by have := HMU.out; simp only at hmu; omega) (by show s.seen.length + 1 + (P.length - (k + 1)) ≤ 1000000; omega) (by show s.back.length + f ≤ 1000000; omega))
        have HGR := Lib.hid (ends_gr lim P f (s.meet (k, m, st)) (k + 1, 0, st))
        have HBD := Lib.hid (show (endsF lim P f (s.meet (k, m, st)) (k + 1, 0, st)).1.seen.length ≤ 10000000 by
          have := ends_most (lim := lim) P f (s.meet (k, m, st)) (k + 1, 0, st) (show k + 1 ≤ P.length by omega)
          have e : (s.meet (k, m, st)).seen.length = s.seen.length + 1 := rfl
          rw [e] at this
          simp only at this
          omega)
        generalize hRR : (endsF lim P f (s.meet (k, m, st)) (k + 1, 0, st)) = R at HEC HG HGR HBD ⊢
        clear hRR
        unfold soC at HEC
        clear hex he hmu
        go_region
        go_wp2_with fail
        refine HEC.out.mono ?_
        rintro _ w5 ⟨rfl, hso5, hfr5⟩
        clear HEC
        have hx5 := HS5.out.cells hfr5 HX5.out (by decide) (by decide)
        cases hr : R.2 with
        | true =>
          rw [tell_yes _ _ hr] at HG
          have HT := Lib.hid hr
          have HSO := Lib.hid hso5
          have HFF := Lib.hid (HFR5.out.trans hfr5)
          clear hso5 hfr5 hx5 HS5 hr
          go_wp2_with fail
          go_returns
          exact ⟨by rw [HG.out, HT.out]; rfl, by rw [HG.out]; exact HSO.out, HFF.out⟩
        | false =>
          rw [tell_no _ _ hr] at HG
          have hd5 : Below w5.heap.size w5 w5.drew := (Below.refl _ _).drew
          obtain ⟨w6, r6, hso6, hfr6⟩ := (hso5.on hd5).bury HX.out hP (bury_few HGR.out HS2.out.few) HBD.out
          obtain ⟨_, _, c6, _⟩ := (hso5.on hd5).rd
          have hx6 := (hd5.block _ (heap_inO hx5)).trans hx5
          unfold soC at hx6 r6
          have e0 : w5.drew.cell? ⟨w.heap.size, 0, none⟩ = some (.int .i64 (k : Int)) := by rw [cell_of_row _ _ _ _ _ _ hx6]; rfl
          have e1 : w5.drew.cell? ⟨w.heap.size, 1, none⟩ = some (.int .u32 (m : Int)) := by rw [cell_of_row _ _ _ _ _ _ hx6]; rfl
          have e2 : w5.drew.cell? ⟨w.heap.size, 2, none⟩ = some (.string (textS st)) := by rw [cell_of_row _ _ _ _ _ _ hx6]; rfl
          have HSO := Lib.hid hso6
          have HFF := Lib.hid (HFR5.out.trans (hfr5.trans ((FrO.of hd5).trans hfr6)))
          clear hso5 hfr5 hso6 hfr6 hx5 hx6 HS5 hr hd5
          go_wp2_with fail
          go_region
          go_wp2_with fail
          go_returns
          exact ⟨by rw [HG.out]; rfl, by rw [HG.out]; exact HSO.out, HFF.out⟩
      | false =>
        have q5 : (bits .andNot .u32 (dn : Int) (m : Int) == 0) = false := by
          rw [andNot_u32]
          refine beq_eq_false_iff_ne.2 fun c => ?_
          have := hex.1 (by omega)
          rw [he] at this
          cases this
        have HG := Lib.hid (ends_go (lim := lim) (f := f) (show (k, m, st).1 ≠ P.length from HK.out) HND.out (by rw [show pieceAt P (k, m, st).1 = l from HPL.out]; exact he))
        have HEC := Lib.hid (goesOn_any HE.out HID.out hlim hP HS5.out HX.out hkl HMU.out (by show s.back.length + f ≤ 1000000; omega))
        have HGR := Lib.hid (goL_gr (lim := lim) (ends_gr lim P f) (pieceAt P (k, m, st).1) (k, m, st) (List.range' 0 (pieceAt P (k, m, st).1).length) (s.meet (k, m, st)))
        have HBD := Lib.hid (show (goL lim (endsF lim P f) (pieceAt P (k, m, st).1) (k, m, st) (List.range' 0 (pieceAt P (k, m, st).1).length) (s.meet (k, m, st))).1.seen.length ≤ 10000000 by
          have := goL_most (lim := lim) (E := endsF lim P f) (l := pieceAt P (k, m, st).1) (x := (k, m, st)) (n := P.length - k) (fun t y hy ht => by
            have := ends_most (lim := lim) P f t y (by rw [hy]; simp only; omega)
            rw [hy] at this
            simp only at this
            omega) (List.range' 0 (pieceAt P (k, m, st).1).length) (s.meet (k, m, st))
          have e : (s.meet (k, m, st)).seen.length = s.seen.length + 1 := rfl
          rw [e] at this
          omega)
        generalize hRR : (goL lim (endsF lim P f) (pieceAt P (k, m, st).1) (k, m, st) (List.range' 0 (pieceAt P (k, m, st).1).length) (s.meet (k, m, st))) = R at HEC HG HGR HBD ⊢
        clear hRR
        unfold soC at HEC
        clear hex he
        go_region
        go_wp2_with fail
        refine HEC.out.mono ?_
        rintro _ w5 ⟨rfl, hso5, hfr5⟩
        clear HEC
        have hx5 := HS5.out.cells hfr5 HX5.out (by decide) (by decide)
        cases hr : R.2 with
        | true =>
          rw [tell_yes _ _ hr] at HG
          have HT := Lib.hid hr
          have HSO := Lib.hid hso5
          have HFF := Lib.hid (HFR5.out.trans hfr5)
          clear hso5 hfr5 hx5 HS5 hr
          go_wp2_with fail
          go_returns
          exact ⟨by rw [HG.out, HT.out]; rfl, by rw [HG.out]; exact HSO.out, HFF.out⟩
        | false =>
          rw [tell_no _ _ hr] at HG
          have hd5 : Below w5.heap.size w5 w5.drew := (Below.refl _ _).drew
          obtain ⟨w6, r6, hso6, hfr6⟩ := (hso5.on hd5).bury HX.out hP (bury_few HGR.out HS2.out.few) HBD.out
          obtain ⟨_, _, c6, _⟩ := (hso5.on hd5).rd
          have hx6 := (hd5.block _ (heap_inO hx5)).trans hx5
          unfold soC at hx6 r6
          have e0 : w5.drew.cell? ⟨w.heap.size, 0, none⟩ = some (.int .i64 (k : Int)) := by rw [cell_of_row _ _ _ _ _ _ hx6]; rfl
          have e1 : w5.drew.cell? ⟨w.heap.size, 1, none⟩ = some (.int .u32 (m : Int)) := by rw [cell_of_row _ _ _ _ _ _ hx6]; rfl
          have e2 : w5.drew.cell? ⟨w.heap.size, 2, none⟩ = some (.string (textS st)) := by rw [cell_of_row _ _ _ _ _ _ hx6]; rfl
          have HSO := Lib.hid hso6
          have HFF := Lib.hid (HFR5.out.trans (hfr5.trans ((FrO.of hd5).trans hfr6)))
          clear hso5 hfr5 hso6 hfr6 hx5 hx6 HS5 hr hd5
          go_wp2_with fail
          go_region
          go_wp2_with fail
          go_returns
          exact ⟨by rw [HG.out]; rfl, by rw [HG.out]; exact HSO.out, HFF.out⟩
theorem ends_all {n₁ bS bM : Nat} {lim : Int} {v : Value} {P : List (List OpV)} (hid : ∀ l ∈ P, ∀ o ∈ l, o.Wf) (hlim : lim ≤ 32768) (hP : P.length ≤ 100000) : ∀ f, EndsC n₁ bS bM lim v P f
  | 0 => fun w s x _ _ h => absurd h (by omega)
  | f + 1 => ends_step (ends_all hid hlim hP f) hid hlim hP
end Od
end Go.Proofs.Ytppjmmdiglnkfaa
