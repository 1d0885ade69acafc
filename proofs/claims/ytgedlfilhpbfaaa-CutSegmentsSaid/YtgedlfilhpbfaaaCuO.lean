/- The document's answers for package cut: Objects. -/
import Derived.Test.YtgedlfilhpbfaaaCuZ
namespace Go.Proofs.Ytgedlfilhpbfaaa
set_option maxRecDepth 100000
open Go.ChangeShapes Go.WideShapes Go.ChangeAt Go.RowKit Go.PlainAid Go.Deep Go.Shelf Go.Sort
namespace Cu
attribute [local go_sem ↓ high] load_op store_o load_s app_opO app_seg
/-- Objects from here on. -/
def farB (any : Bool) (last : Int) (o : OpV) : Bool := !any || decide (o.obj > last)
/-- What is cut so far: all objects up to the last one. -/
structure RoI (l : List OpV) (any : Bool) (last : Int) (r : List SegV) : Prop where
  rise : r.Pairwise fun a b => a.obj < b.obj
  all : ∀ o ∈ l, farB any last o = false → ∃ s ∈ r, s.obj = o.obj
  low : ∀ s ∈ r, any = true ∧ s.obj ≤ last
  each : ∀ s ∈ r, Sorted cfInv (l.filter fun o => decide (o.obj = s.obj)) s.ops ∧ ∃ o, s.ops.head? = some o ∧ s.kind = o.kind
theorem RoI.start (l : List OpV) : RoI l false 0 [] := ⟨List.Pairwise.nil, (fun o _ h => by simp [farB] at h), (fun s hs => by cases hs), fun s hs => by cases hs⟩
theorem RoI.done {l : List OpV} {any : Bool} {last : Int} {r : List SegV} (h : RoI l any last r) (hn : ∀ o ∈ l, farB any last o = false) : ObjOk l r := ⟨h.rise, fun o ho => h.all o ho (hn o ho), h.each⟩
/-- The least object from here on, among the first. -/
structure RoF (l : List OpV) (any : Bool) (last : Int) (i : Nat) (found : Bool) (next : Int) : Prop where
  no : found = false → ∀ o ∈ l.take i, farB any last o = false
  yes : found = true → (∃ o ∈ l, o.obj = next ∧ farB any last o = true) ∧ ∀ o ∈ l.take i, farB any last o = true → next ≤ o.obj
theorem RoF.skip {l : List OpV} {any : Bool} {last : Int} {i : Nat} {found : Bool} {next : Int} {o : OpV} (h : RoF l any last i found next) (ho : l[i]? = some o) (hf : farB any last o = false ∨ (found = true ∧ next ≤ o.obj)) : RoF l any last (i + 1) found next := by
  refine ⟨fun h1 x hx => ?_, fun h1 => ⟨(h.yes h1).1, fun x hx hfx => ?_⟩⟩ <;> rw [take_snoc ho] at hx <;> rcases List.mem_append.1 hx with hx | hx
  · exact h.no h1 x hx
  · rw [List.mem_singleton.1 hx]
    rcases hf with hf | hf
    · exact hf
    · rw [h1] at hf; cases hf.1
  · exact (h.yes h1).2 x hx hfx
  · rw [List.mem_singleton.1 hx] at hfx ⊢
    rcases hf with hf | hf
    · rw [hf] at hfx; cases hfx
    · exact hf.2
theorem RoF.take {l : List OpV} {any : Bool} {last : Int} {i : Nat} {found : Bool} {next : Int} {o : OpV} (h : RoF l any last i found next) (ho : l[i]? = some o) (hf : farB any last o = true) (hc : found = false ∨ o.obj < next) : RoF l any last (i + 1) true o.obj := by
  refine ⟨(fun h1 => by cases h1), fun _ => ⟨⟨o, List.mem_of_getElem? ho, rfl, hf⟩, fun x hx hfx => ?_⟩⟩
  rw [take_snoc ho] at hx
  rcases List.mem_append.1 hx with hx | hx
  · rcases hc with hc | hc
    · rw [h.no hc x hx] at hfx; cases hfx
    · cases hfd : found with
      | false => rw [h.no hfd x hx] at hfx; cases hfx
      | true => have := (h.yes hfd).2 x hx hfx; omega
  · rw [List.mem_singleton.1 hx]; exact Int.le_refl _
theorem RoI.next {l : List OpV} {any : Bool} {last next : Int} {r : List SegV} {S : List OpV} {o : OpV} (h : RoI l any last r) (hf : RoF l any last l.length true next) (hs : Sorted cfInv (l.filter fun o => decide (o.obj = next)) S) (ho : S.head? = some o) : RoI l true next (r ++ [⟨next, o.kind, S⟩]) := by
  obtain ⟨⟨z, hz, hzn, hzf⟩, hmin⟩ := hf.yes rfl
  rw [List.take_length] at hmin
  have hlast : ∀ s ∈ r, s.obj < next := fun s hs => by
    obtain ⟨h1, h2⟩ := h.low s hs
    unfold farB at hzf
    rw [h1] at hzf
    simp at hzf
    omega
  refine ⟨?_, fun x hx hfx => ?_, fun s hs => ?_, fun s hs' => ?_⟩
  · rw [List.pairwise_append]
    exact ⟨h.rise, by simp, fun a ha b hb => by rw [List.mem_singleton.1 hb]; exact hlast a ha⟩
  · have hxn : x.obj ≤ next := by unfold farB at hfx; simp at hfx; exact hfx
    cases hfa : farB any last x with
    | false =>
      obtain ⟨s, hs, e⟩ := h.all x hx hfa
      exact ⟨s, by simp [hs], e⟩
    | true =>
      have := hmin x hx hfa
      exact ⟨_, List.mem_append_right _ (List.mem_singleton.2 rfl), by simp only; omega⟩
  · rcases List.mem_append.1 hs with hs | hs
    · exact ⟨rfl, by have := hlast s hs; omega⟩
    · rw [List.mem_singleton.1 hs]; exact ⟨rfl, Int.le_refl _⟩
  · rcases List.mem_append.1 hs' with hs' | hs'
    · exact h.each s hs'
    · rw [List.mem_singleton.1 hs']; exact ⟨hs, o, ho, rfl⟩
theorem rise_few {l : List OpV} {r : List SegV} (h1 : r.Pairwise fun a b => a.obj < b.obj) (h2 : ∀ s ∈ r, ∃ o ∈ l, o.obj = s.obj) : r.length ≤ l.length := by
  have hn : (r.map SegV.obj).Nodup := by
    rw [List.nodup_iff_pairwise_ne, List.pairwise_map]
    exact h1.imp fun h => Int.ne_of_lt h
  have hsub : ∀ x ∈ r.map SegV.obj, x ∈ l.map OpV.obj := fun x hx => by
    obtain ⟨s, hs, rfl⟩ := List.mem_map.1 hx
    obtain ⟨o, ho, e⟩ := h2 s hs
    exact List.mem_map.2 ⟨o, ho, e⟩
  have := hn.length_le_of_subset hsub
  simpa using this
theorem RoI.few {l : List OpV} {any : Bool} {last : Int} {r : List SegV} (h : RoI l any last r) : r.length ≤ l.length := rise_few h.rise fun s hs => by
  obtain ⟨h1, o, ho, _⟩ := h.each s hs
  have := List.mem_filter.1 (h1.1.mem_iff.1 (List.mem_of_mem_head? ho))
  exact ⟨o, this.1, of_decide_eq_true this.2⟩
/-- How many are left. -/
def leftN (l : List OpV) (any : Bool) (last : Int) : Nat := (l.filter (farB any last)).length
theorem left_less {l : List OpV} {any : Bool} {last next : Int} (hf : RoF l any last l.length true next) : leftN l true next < leftN l any last := by
  obtain ⟨⟨z, hz, hzn, hzf⟩, hmin⟩ := hf.yes rfl
  unfold leftN
  have hsub : (l.filter (farB true next)).Sublist (l.filter (farB any last)) := by
    have e : l.filter (farB true next) = (l.filter (farB any last)).filter (farB true next) := by
      rw [List.filter_filter]
      refine List.filter_congr fun o ho => ?_
      cases h : farB true next o with
      | false => rfl
      | true =>
        have h1 : o.obj > next := by unfold farB at h; simpa using h
        have : farB any last o = true := by
          unfold farB at hzf ⊢
          cases any with
          | false => rfl
          | true => simp at hzf ⊢; omega
        rw [this]; rfl
    rw [e]
    exact List.filter_sublist
  rcases Nat.lt_or_ge (l.filter (farB true next)).length (l.filter (farB any last)).length with c | c
  · exact c
  · have e := hsub.eq_of_length_le c
    have : z ∈ l.filter (farB true next) := by rw [e]; exact List.mem_filter.2 ⟨hz, hzf⟩
    have := (List.mem_filter.1 this).2
    unfold farB at this
    simp at this
    omega
theorem own_form2 {n₀ : Nat} {W : World} {v : Value} {L : List OpV} (h : OpsOwn n₀ W v L) : ∃ ao cap, v = .slice ao L.length cap := by
  rcases h.2 with ⟨rfl, e⟩ | ⟨g, cap, cur, rfl, _⟩
  · exact ⟨_, _, by rw [e]⟩
  · exact ⟨_, _, rfl⟩
def RoPost (l : List OpV) (w : World) (e : Ending) (w' : World) : Prop := ∃ v' ps, e = .returned v' ∧ SegM w w' v' ps [] ∧ ObjOk l (ps.map Prod.fst)
set_option maxHeartbeats 2000000 in
theorem robjects_any {v : Value} {l : List OpV} {w : World} (h : OpsOf w v l) (hl : l.length ≤ 65536) : Calls Try.prog 11 #[v] w (RoPost l w) := by
  obtain ⟨ao, ac, rfl⟩ := h.len
  have H := Lib.hid h
  have HI0 := Lib.hid (show SegM w w (.slice none 0 0) [] [] ∧ RoI l false 0 (([] : List (SegV × Value)).map Prod.fst) from ⟨SegM.start, RoI.start l⟩)
  clear h
  go_enter Try.func11, Try.ntmps11
  go_wp2_with fail
  go_loopw [3, 4, 5] (fun s3 s4 s5 wr => ∃ (last : Int) (any : Bool) (ps : List (SegV × Value)), s4 = .int .i64 last ∧ s5 = .bool any ∧ Hid (SegM w wr s3 ps [] ∧ RoI l any last (ps.map Prod.fst))) (fun _ s4 s5 _ => leftN l (match s5 with | .bool b => b | _ => false) (intOf s4))
  case atStart => exact ⟨0, false, [], rfl, rfl, HI0⟩
  case round =>
    clear HI0
    obtain ⟨last, any, ps, rfl, rfl, HI⟩ := hrel
    have HF0 := Lib.hid (show RoF l any last 0 false 0 ∧ Below wr.heap.size wr wr from ⟨⟨fun _ o ho => by simp at ho, fun h => by cases h⟩, Below.refl _ _⟩)
    obtain ⟨w1, hw1⟩ : ∃ W, wr = W := ⟨_, rfl⟩
    rw [hw1] at HF0 HI ⊢
    clear hw1
    go_wp2_with fail
    go_loopw [6, 7, 8] (fun s6 s7 s8 wr => ∃ (i : Nat) (next : Int) (found : Bool), s6 = .int .i64 next ∧ s7 = .bool found ∧ s8 = .int .i64 i ∧ i ≤ l.length ∧ Hid (RoF l any last i found next ∧ Below w1.heap.size w1 wr)) (fun _ _ s8 _ => l.length - (intOf s8).toNat)
    case atStart => exact ⟨0, 0, false, rfl, rfl, rfl, Nat.zero_le _, HF0⟩
    case round =>
      clear HF0
      obtain ⟨i, next, found, rfl, rfl, rfl, hi, HJ⟩ := hrel
      by_cases hil : i < l.length
      case pos =>
        have q1 : (i : Int) < (l.length : Int) := by omega
        have q2 : IntKind.i64.wrap ((i : Int) + 1) = (i : Int) + 1 := IntWalk.i64_in _ (by omega)
        obtain ⟨o, hok⟩ : ∃ o, l[i]? = some o := ⟨_, List.getElem?_eq_getElem hil⟩
        obtain ⟨b, p, c, hv, hlt, _, hc⟩ := OpsOf.at (H.out.on (HI.out.1.below.on HJ.out.2)) hok
        obtain rfl : ao = some ⟨b, p, none⟩ := by cases hv; rfl
        have c2 : wr.cell? ⟨b, p + i * 11 + 2, none⟩ = some (.int .i64 o.obj) := hc 2 _ rfl
        have HO := Lib.hid hok
        clear hv hlt hc hok
        obtain ⟨far, hfar⟩ : ∃ f, farB any last o = f := ⟨_, rfl⟩
        have HFAR := Lib.hid hfar
        have hd : any = true → decide (o.obj > last) = far := fun e => by rw [← hfar, e]; simp [farB]
        have hd2 : any = false → far = true := fun e => by rw [← hfar, e]; simp [farB]
        cases far with
        | false =>
          have HE := Lib.hid (And.intro (HJ.out.1.skip HO.out (.inl HFAR.out)) HJ.out.2)
          cases any with
          | false => exact absurd (hd2 rfl) (by simp)
          | true =>
            have hd := hd rfl
            clear hfar hd2
            go_wp2_with fail
            go_roundw
            case measure => simp [intOf] <;> omega
            case rel => exact ⟨i + 1, next, found, rfl, rfl, by simp, by omega, HE⟩
        | true =>
          cases found with
          | false =>
            have HE := Lib.hid (And.intro (HJ.out.1.take HO.out HFAR.out (.inl rfl)) HJ.out.2)
            cases any with
            | false =>
              clear hfar hd hd2
              go_wp2_with fail
              go_roundw
              case measure => simp [intOf] <;> omega
              case rel => exact ⟨i + 1, o.obj, true, rfl, rfl, by simp, by omega, HE⟩
            | true =>
              have hd := hd rfl
              clear hfar hd2
              go_wp2_with fail
              go_roundw
              case measure => simp [intOf] <;> omega
              case rel => exact ⟨i + 1, o.obj, true, rfl, rfl, by simp, by omega, HE⟩
          | true =>
            by_cases hlow : o.obj < next
            · have q3 : decide (o.obj < next) = true := decide_eq_true hlow
              have HE := Lib.hid (And.intro (HJ.out.1.take HO.out HFAR.out (.inr hlow)) HJ.out.2)
              clear hlow
              cases any with
              | false =>
                clear hfar hd hd2
                go_wp2_with fail
                go_roundw
                case measure => simp [intOf] <;> omega
                case rel => exact ⟨i + 1, o.obj, true, rfl, rfl, by simp, by omega, HE⟩
              | true =>
                have hd := hd rfl
                clear hfar hd2
                go_wp2_with fail
                go_roundw
                case measure => simp [intOf] <;> omega
                case rel => exact ⟨i + 1, o.obj, true, rfl, rfl, by simp, by omega, HE⟩
            · have q3 : decide (o.obj < next) = false := decide_eq_false hlow
              have HE := Lib.hid (And.intro (HJ.out.1.skip HO.out (.inr ⟨rfl, by omega⟩)) HJ.out.2)
              clear hlow
              cases any with
              | false =>
                clear hfar hd hd2
                go_wp2_with fail
                go_roundw
                case measure => simp [intOf] <;> omega
                case rel => exact ⟨i + 1, next, true, rfl, rfl, by simp, by omega, HE⟩
              | true =>
                have hd := hd rfl
                clear hfar hd2
                go_wp2_with fail
                go_roundw
                case measure => simp [intOf] <;> omega
                case rel => exact ⟨i + 1, next, true, rfl, rfl, by simp, by omega, HE⟩
      case neg =>
        obtain rfl : i = l.length := by omega
        have q1 : ¬ ((l.length : Int) < (l.length : Int)) := by omega
        cases found with
        | false =>
          have HE := Lib.hid (And.intro (HI.out.1.on HJ.out.2) (HI.out.2.done (fun o ho => by have := HJ.out.1.no rfl; rw [List.take_length] at this; exact this o ho)))
          go_wp2_with fail
          go_returns
          exact ⟨_, ps, rfl, HE.out.1, HE.out.2⟩
        | true =>
          have HP0 := Lib.hid (show OpsOwn wr.heap.size wr (.slice none 0 0) ((l.take 0).filter fun o => decide (o.obj = next)) ∧ Below wr.heap.size wr wr from ⟨World.ownsRow_nil _ _ _ _, Below.refl _ _⟩)
          obtain ⟨w2, hw2⟩ : ∃ W, wr = W := ⟨_, rfl⟩
          rw [hw2] at HP0 HJ ⊢
          clear hw2
          go_wp2_with fail
          go_loopw [9, 10] (fun s9 s10 wr => ∃ (k : Nat) (aA : Option Addr) (cA : Nat) (M : List OpV), s9 = .slice aA M.length cA ∧ s10 = .int .i64 k ∧ k ≤ l.length ∧ M = ((l.take k).filter fun o => decide (o.obj = next)) ∧ Hid (OpsOwn w2.heap.size wr (.slice aA M.length cA) M ∧ Below w2.heap.size w2 wr)) (fun _ s10 _ => l.length - (intOf s10).toNat)
          case atStart => exact ⟨0, none, 0, [], rfl, rfl, Nat.zero_le _, by simp, HP0⟩
          case round =>
            clear HP0
            obtain ⟨k, aA, cA, M, rfl, rfl, hk, hM, HK⟩ := hrel
            have HM := Lib.hid hM
            have hMl : M.length ≤ 65536 := by have := List.length_filter_le (fun o => decide (o.obj = next)) (l.take k); rw [← hM, List.length_take] at this; omega
            clear hM
            by_cases hkl : k < l.length
            case pos =>
              have q3 : (k : Int) < (l.length : Int) := by omega
              have q4 : IntKind.i64.wrap ((k : Int) + 1) = (k : Int) + 1 := IntWalk.i64_in _ (by omega)
              obtain ⟨o, hok⟩ : ∃ o, l[k]? = some o := ⟨_, List.getElem?_eq_getElem hkl⟩
              obtain ⟨b, p, c, hv, hlt, hwo, hc⟩ := OpsOf.at (H.out.on (HI.out.1.below.on (HJ.out.2.on HK.out.2))) hok
              obtain rfl : ao = some ⟨b, p, none⟩ := by cases hv; rfl
              have c2 : wr.cell? ⟨b, p + k * 11 + 2, none⟩ = some (.int .i64 o.obj) := hc 2 _ rfl
              have l1 := load_cellsO (p := p + k * 11) hc
              have HO := Lib.hid hok
              clear hv hlt hc hok
              by_cases hob : o.obj = next
              · have q5 : (o.obj == next) = true := beq_iff_eq.2 hob
                have hb7 : Below wr.heap.size wr (wr.alloc (.cells #[Value.int .i64 o.id, Value.int .i64 o.proc, Value.int .i64 o.obj, Value.int .i64 o.kind, Value.int .i64 o.meth, Value.int .i64 o.arg, Value.int .i64 o.sec, Value.bool o.done, Value.int .i64 o.res, Value.int .i64 o.inv, Value.int .i64 o.ret] 35)) := by go_grown
                obtain ⟨v8, W8, hr8, ho8, hb8⟩ := ops_push (n₀ := w2.heap.size) (HK.out.1.on hb7) (OpAt.box wr o) hwo (by have := HK.out.2.size; have := hb7.size; omega) (by omega)
                obtain ⟨a8, c8, rfl⟩ := own_form2 ho8
                have HE := Lib.hid (show OpsOwn w2.heap.size W8 (.slice a8 (M ++ [o]).length c8) (M ++ [o]) ∧ Below w2.heap.size w2 W8 from ⟨ho8, (HK.out.2.on hb7).trans hb8⟩)
                have HM2 := Lib.hid (show M ++ [o] = ((l.take (k + 1)).filter fun o => decide (o.obj = next)) from by rw [take_snoc HO.out, List.filter_append, HM.out]; simp [hob])
                clear hwo hob hb7 ho8 hb8
                go_wp2_with fail
                go_roundw
                case measure => simp [intOf] <;> omega
                case rel => exact ⟨k + 1, a8, c8, M ++ [o], by simp, by simp, by omega, HM2.out, HE⟩
              · have q5 : (o.obj == next) = false := beq_eq_false_iff_ne.2 hob
                have HM2 := Lib.hid (show M = ((l.take (k + 1)).filter fun o => decide (o.obj = next)) from by rw [take_snoc HO.out, List.filter_append, HM.out]; simp [hob])
                clear hwo hob l1
                go_wp2_with fail
                go_roundw
                case measure => simp [intOf] <;> omega
                case rel => exact ⟨k + 1, aA, cA, M, rfl, by simp, by omega, HM2.out, HK⟩
            case neg =>
              obtain rfl : k = l.length := by omega
              have q3 : ¬ ((l.length : Int) < (l.length : Int)) := by omega
              have hwf : ∀ o ∈ M, o.Wf := fun o ho => by rw [HM.out] at ho; exact H.out.2 o (List.mem_of_mem_take (List.mem_filter.1 ho).1)
              have HC := Lib.hid (rsorted_any (HK.out.1.reads hwf) hMl)
              have HWF := Lib.hid hwf
              clear hwf
              go_wp2_with fail
              (with_reducible refine HC.out.mono ?_)
              rintro _ w5 ⟨v5, rfl, S, ho5, hs5, hb5⟩
              have hwS : ∀ o ∈ S, o.Wf := fun o ho => HWF.out o (hs5.1.mem_iff.1 ho)
              have hne : ∃ o, S.head? = some o := by
                obtain ⟨z, hz, hzn, _⟩ := (HJ.out.1.yes rfl).1
                have : z ∈ S := hs5.1.mem_iff.2 (by rw [HM.out, List.take_length]; exact List.mem_filter.2 ⟨hz, by simp [hzn]⟩)
                cases S with
                | nil => cases this
                | cons y r => exact ⟨y, rfl⟩
              obtain ⟨o, hoh⟩ := hne
              have ho0 : S[0]? = some o := by rw [← hoh]; cases S <;> rfl
              have hrd := OpsOwn.rd ho5 hwS
              obtain ⟨b5, p5, c5, rfl, _, _, hc5⟩ := OpsOf.at hrd.1 ho0
              have c3 : w5.cell? ⟨b5, p5 + 3, none⟩ = some (.int .i64 o.kind) := by have := hc5 3 _ rfl; simpa using this
              have hSl : (0 : Int) < (S.length : Int) := by have := (List.getElem?_eq_some_iff.1 ho0).1; omega
              have hsg := HI.out.1.on (HJ.out.2.on (HK.out.2.on hb5))
              obtain ⟨g6, cap6, W6, hrun, h6, _, _⟩ := hsg.app ⟨next, o.kind, S⟩ hrd (by have := HI.out.2.few; rw [List.length_map] at this; omega)
              have HN := Lib.hid (HI.out.2.next HJ.out.1 (by have := hs5; rw [HM.out, List.take_length] at this; exact this) hoh)
              have HE := Lib.hid (show SegM w W6 (.slice (some ⟨g6, 0, none⟩) (ps.length + 1) cap6) (ps ++ [((⟨next, o.kind, S⟩ : SegV), Value.slice (some ⟨b5, p5, none⟩) S.length c5)]) [] ∧ RoI l true next ((ps ++ [((⟨next, o.kind, S⟩ : SegV), Value.slice (some ⟨b5, p5, none⟩) S.length c5)]).map Prod.fst) from ⟨h6, by have := HN.out; simpa using this⟩)
              have HLESS := Lib.hid (left_less HJ.out.1)
              simp only at hrun
              have l0' : 0 < S.length := by omega
              clear ho5 hs5 hb5 hwS hoh ho0 hrd hc5 hsg h6
              go_wp2_with fail
              go_roundw
              case measure => exact HLESS.out
              case rel => exact ⟨next, true, _, rfl, rfl, HE⟩
end Cu
end Go.Proofs.Ytgedlfilhpbfaaa
