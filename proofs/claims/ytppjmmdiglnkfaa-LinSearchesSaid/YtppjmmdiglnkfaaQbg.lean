/- The document's Sorted, of slices that have a property. Two rows of states, one behind the other; an answer stored. -/
import Derived.Test.YtppjmmdiglnkfaaQbf
import Derived.Test.YtppjmmdiglnkfaaQbd
import Derived.Test.YtppjmmdiglnkfaaQbe
namespace Go.Proofs.Ytppjmmdiglnkfaa
set_option maxRecDepth 100000
open Go.ChangeShapes Go.WideShapes Go.ChangeAt Go.RowKit Go.PlainAid Go.Deep
namespace Ln
attribute [local go_sem ↓ high] app_st
/-- States to be read, whose slices have a property. -/
def StsQ (Q : Value → Prop) (w : World) (v : Value) (l : List (List Int)) : Prop := ∃ vs, Rd w v 1 l.length vs ∧ ∀ (i : Nat) (u : Value) (s : List Int), vs[i]? = some u → l[i]? = some s → IntsOf w u s ∧ Q u
theorem StsQ.sts {Q : Value → Prop} {w : World} {v : Value} {l : List (List Int)} (h : StsQ Q w v l) : Sts w v l := by
  obtain ⟨vs, h1, h2⟩ := h
  exact ⟨vs, h1, fun i u s hu hs => (h2 i u s hu hs).1⟩
theorem StsQ.on {Q : Value → Prop} {w w' : World} {v : Value} {l : List (List Int)} (h : StsQ Q w v l) (hb : Below w.heap.size w w') : StsQ Q w' v l := by
  obtain ⟨vs, h1, h2⟩ := h
  exact ⟨vs, h1.on hb, fun i u s hu hs => ⟨(h2 i u s hu hs).1.on hb, (h2 i u s hu hs).2⟩⟩
theorem StsQ.at {Q : Value → Prop} {w : World} {v : Value} {l : List (List Int)} (h : StsQ Q w v l) {i : Nat} {s : List Int} (hi : l[i]? = some s) : ∃ b p cap u, v = .slice (some ⟨b, p, none⟩) l.length cap ∧ b < w.heap.size ∧ w.cell? ⟨b, p + i, none⟩ = some u ∧ IntsOf w u s ∧ Q u := by
  obtain ⟨vs, h1, h2⟩ := h
  have hlt : i < l.length := (List.getElem?_eq_some_iff.1 hi).1
  obtain ⟨b, p, cap, hv, hb, hr⟩ := h1.at (by omega)
  have hu : vs[i]? = some (vs[i]'(by rw [h1.1]; omega)) := List.getElem?_eq_getElem _
  exact ⟨b, p, cap, _, hv, hb, hr i _ hu, h2 i _ s hu hi⟩
def SoQ (Q : Value → Prop) (n₀ : Nat) (w0 w : World) (v : Value) (l : List (List Int)) : Prop := ∃ vs, w.ownsRow n₀ 27 1 v l.length vs ∧ ∀ (i : Nat) (u : Value) (s : List Int), vs[i]? = some u → l[i]? = some s → IntsOf w0 u s ∧ Q u
theorem SoQ.reads {Q : Value → Prop} {n₀ : Nat} {w0 w : World} {v : Value} {l : List (List Int)} (h : SoQ Q n₀ w0 w v l) (hb : Below w0.heap.size w0 w) : Sts w v l := by
  obtain ⟨vs, h1, h2⟩ := h
  exact ⟨vs, own_rd h1, fun i u s hu hs => (h2 i u s hu hs).1.on hb⟩
theorem SoQ.on {Q : Value → Prop} {n₀ : Nat} {w0 w w' : World} {v : Value} {l : List (List Int)} (h : SoQ Q n₀ w0 w v l) (hb : Below w.heap.size w w') : SoQ Q n₀ w0 w' v l := by
  obtain ⟨vs, h1, h2⟩ := h
  exact ⟨vs, ownsRow_onI h1 hb, h2⟩
theorem so_insq {Q : Value → Prop} {n₀ : Nat} {w W : World} {aA : Option Addr} {cA : Nat} {S : List (List Int)} {s : List Int} {u : Value} {n : Nat} (h : SoQ Q n₀ w W (.slice aA S.length cA) S) (hb : Below w.heap.size w W) (hu : IntsOf w u s ∧ Q u) (hn : n ≤ S.length) (hl : S.length ≤ 1000000) (h0 : n₀ ≤ w.heap.size) :
    ∃ a6 c6 W6, (appSt #[.slice (some ⟨W.heap.size, 0, none⟩) 0 0, .slice aA n cA]).run Try.prog (W.alloc (.cells #[] 27)) = .ok (.slice a6 n c6) W6 ∧ Below W.heap.size W W6 ∧
    ∃ a8 c8 W8, (appSt #[.slice a6 n c6, .slice (some ⟨W6.heap.size, 0, none⟩) 1 1]).run Try.prog (W6.alloc (.cells #[u] 27)) = .ok (.slice a8 (n + 1) c8) W8 ∧ Below W.heap.size W W8 ∧
    (n = S.length → SoQ Q n₀ w W8 (.slice a8 (n + 1) c8) (S.take n ++ [s] ++ S.drop n) ∧ ∀ ao cap, (appSt #[.slice a8 (n + 1) c8, .slice ao 0 cap]).run Try.prog W8 = .ok (.slice a8 (n + 1) c8) W8) ∧
    (n < S.length → ∃ g, aA = some ⟨g, 0, none⟩ ∧ ∃ a9 c9 W9, (appSt #[.slice a8 (n + 1) c8, .slice (some ⟨g, n, none⟩) (S.length - n) (cA - n)]).run Try.prog W8 = .ok (.slice a9 (S.length + 1) c9) W9 ∧ Below W.heap.size W W9 ∧ SoQ Q n₀ w W9 (.slice a9 (S.length + 1) c9) (S.take n ++ [s] ++ S.drop n)) := by
  obtain ⟨vs, h1, h2⟩ := h
  have hvl : vs.length = S.length := by rw [h1.1, Nat.mul_one]
  have hvone : ∀ x ∈ vs, x.oneCell' = true := fun x hx => by
    obtain ⟨i, hi⟩ := List.getElem?_of_mem hx
    have hlt := (List.getElem?_eq_some_iff.1 hi).1
    exact ints_one (h2 i x _ hi (List.getElem?_eq_getElem (by omega))).1
  have hba : Below W.heap.size W (W.alloc (.cells #[] 27)) := by go_grown
  have hm0 : (W.alloc (.cells #[] 27)).ownsRow W.heap.size 27 1 (.slice (some ⟨W.heap.size, 0, none⟩) 0 0) 0 [] := World.ownsRow_made W #[] 0 (Nat.le_refl _) (Nat.zero_le _) rfl
  have hr1 := ((own_rd h1).on hba).take hn cA
  rw [Nat.mul_one] at hr1
  obtain ⟨v6, W6, hr6, ho6, hg6⟩ := row_app rtSt_good hm0 hr1 (fun x hx => hvone x (List.mem_of_mem_take hx)) hba.size (by omega)
  rw [Nat.zero_add, List.nil_append] at ho6
  obtain ⟨a6, c6, rfl, _⟩ := own_len ho6
  have hb6 : Below W.heap.size W W6 := hba.grown hg6 hba.size (fun k e => by simp [Value.ownBlock] at e; omega)
  obtain ⟨v8, W8, hr8, ho8, hk8⟩ := row_push rtSt_good ho6 [u] rfl (fun x hx => by rw [List.mem_singleton.1 hx]; exact ints_one hu.1) hb6.size (by omega)
  obtain ⟨a8, c8, rfl, _⟩ := own_len ho8
  have hb8 : Below W.heap.size W W8 := hb6.trans (hk8.below (fun i hi => (row_block ho6 hi).1) hb6.size)
  have hn0 : n₀ ≤ W.heap.size := Nat.le_trans h0 hb.size
  refine ⟨a6, c6, W6, hr6, hb6, a8, c8, W8, hr8, hb8, fun e => ⟨?_, fun ao cap => app_none ho8 ao cap⟩, fun hlt => ?_⟩
  · refine ⟨vs.take n ++ [u], ?_, fun i x t hx ht => ?_⟩
    · have : (S.take n ++ [s] ++ S.drop n).length = n + 1 := by simp; omega
      rw [this]
      exact ownsRow_baseI ho8 hn0
    · subst e
      rw [List.take_of_length_le (show vs.length ≤ S.length by omega)] at hx
      rw [List.take_of_length_le (Nat.le_refl _), List.drop_of_length_le (Nat.le_refl _), List.append_nil] at ht
      by_cases c : i < S.length
      · rw [List.getElem?_append_left (by omega)] at hx
        rw [List.getElem?_append_left c] at ht
        exact h2 i x t hx ht
      · have hi : i = S.length := by
          have := (List.getElem?_eq_some_iff.1 ht).1
          simp at this
          omega
        subst hi
        rw [List.getElem?_concat_length] at ht
        rw [← hvl, List.getElem?_concat_length] at hx
        obtain rfl := Option.some.inj hx
        obtain rfl := Option.some.inj ht
        exact hu
  · obtain ⟨g, cp, hv, hg, _⟩ := own_at h1 (by omega)
    obtain ⟨e1, _, rfl⟩ := Value.slice.inj hv
    subst e1
    have hr9 := ((own_rd h1).on hb8).drop hlt (cA - n)
    rw [Nat.mul_one, Nat.zero_add] at hr9
    obtain ⟨v9, W9, hr9', ho9, hg9⟩ := row_app rtSt_good ho8 hr9 (fun x hx => hvone x (List.mem_of_mem_drop hx)) (Nat.le_trans (Nat.le_refl _) hb8.size) (by omega)
    rw [show n + 1 + (S.length - n) = S.length + 1 by omega] at ho9
    obtain ⟨a9, c9, rfl, _⟩ := own_len ho9
    refine ⟨g, rfl, a9, c9, W9, hr9', hb8.grown hg9 hb8.size (fun k e => (row_block ho8 e).1), vs.take n ++ [u] ++ vs.drop n, ?_, fun i x t hx ht => ?_⟩
    · have : (S.take n ++ [s] ++ S.drop n).length = S.length + 1 := by simp; omega
      rw [this]
      exact ownsRow_baseI ho9 hn0
    · have hvt : (vs.take n).length = n := by rw [List.length_take]; omega
      have hst : (S.take n).length = n := by rw [List.length_take]; omega
      by_cases c : i < n
      · rw [List.append_assoc, List.getElem?_append_left (by omega), List.getElem?_take_of_lt c] at hx ht
        exact h2 i x t hx ht
      · by_cases c2 : i = n
        · subst c2
          rw [List.append_assoc, List.getElem?_append_right (by omega)] at hx ht
          rw [hvt] at hx
          rw [hst] at ht
          simp at hx ht
          subst hx ht
          exact hu
        · rw [List.append_assoc, List.getElem?_append_right (by omega), List.getElem?_append_right (by simp; omega), List.getElem?_drop] at hx ht
          rw [hvt] at hx
          rw [hst] at ht
          simp only [List.length_singleton] at hx ht
          exact h2 _ x t hx ht
set_option maxHeartbeats 4000000 in
theorem rsorted_q {Q : Value → Prop} {v : Value} {l : List (List Int)} {w : World} (h : StsQ Q w v l) (hk : ∀ s ∈ l, s.length ≤ 1000000000) (hl : l.length ≤ 1000000) :
    Calls Try.prog 29 #[v] w fun e w' => ∃ v', e = .returned v' ∧ ∃ r, SoQ Q w.heap.size w w' v' r ∧ US l r ∧ Below w.heap.size w w' := by
  obtain ⟨al, cl, rfl⟩ := h.sts.len
  have hok : ∀ s ∈ l, Okz s := fun s hs => by
    obtain ⟨i, hi⟩ := List.getElem?_of_mem hs
    obtain ⟨b, p, cap, u, _, _, _, hu⟩ := h.at hi
    exact ⟨hu.1.inI, by have := hk s hs; omega⟩
  have H := Lib.hid h
  have HK := Lib.hid hk
  have HOK := Lib.hid hok
  have HI0 := Lib.hid (show SoQ Q w.heap.size w w (.slice none 0 0) [] ∧ US (l.take 0) [] ∧ Below w.heap.size w w from ⟨⟨[], World.ownsRow_nil _ _ _ _, fun i u s hu => by simp at hu⟩, US.nil, Below.refl _ _⟩)
  clear h hk hok
  go_enter Try.func29, Try.ntmps29
  go_wp2_with fail
  go_loopw [3, 4] (fun s3 s4 wr => ∃ (i : Nat) (aA : Option Addr) (cA : Nat) (S : List (List Int)), s4 = .int .i64 i ∧ s3 = .slice aA S.length cA ∧ i ≤ l.length ∧ Hid (SoQ Q w.heap.size w wr (.slice aA S.length cA) S ∧ US (l.take i) S ∧ Below w.heap.size w wr)) (fun _ s4 _ => l.length - (intOf s4).toNat)
  case atStart => exact ⟨0, none, 0, [], rfl, rfl, Nat.zero_le _, HI0⟩
  case round =>
    clear HI0
    obtain ⟨i, aA, cA, S, rfl, rfl, hi, HI⟩ := hrel
    rename World => wq
    by_cases hil : i < l.length
    case neg =>
      obtain rfl : i = l.length := by omega
      have q1 : ¬ ((l.length : Int) < (l.length : Int)) := by omega
      obtain ⟨h1, h2, h3⟩ := HI.out
      rw [List.take_length] at h2
      have HE := Lib.hid (And.intro h1 (And.intro h2 h3))
      clear h1 h2 h3 HI
      go_wp2_with fail
      go_returns
      exact ⟨_, rfl, S, HE.out⟩
    have q1 : (i : Int) < (l.length : Int) := by omega
    have q2 : IntKind.i64.wrap ((i : Int) + 1) = (i : Int) + 1 := IntWalk.i64_in _ (by omega)
    obtain ⟨s, hs⟩ : ∃ s, l[i]? = some s := ⟨_, List.getElem?_eq_getElem hil⟩
    obtain ⟨b, p, cap, u, hveq, hlt, hc, hu0⟩ := H.out.at hs
    obtain rfl : al = some ⟨b, p, none⟩ := by cases hveq; rfl
    obtain ⟨au, cu, rfl, _⟩ := hu0.1.parts
    have g1 : wq.cell? ⟨b, p + i, none⟩ = some (.slice au s.length cu) := (HI.out.2.2.cell (p := ⟨b, p + i, none⟩) hlt).trans hc
    have hsl : s.length ≤ 1000000000 := HK.out s (List.mem_of_getElem? hs)
    have hSl : S.length ≤ 1000000 := by have := HI.out.2.1.len; rw [List.length_take] at this; omega
    have HS := Lib.hid hs
    have HU := Lib.hid hu0
    have HSO := Lib.hid (HOK.out s (List.mem_of_getElem? hs))
    have HLT := Lib.hid (And.intro hlt hc)
    clear hveq hlt hc hs hu0
    go_wp2_with fail
    refine (rtext_any _ s _ (HU.out.1.on HI.out.2.2) (by omega)).mono ?_
    rintro _ w1 ⟨rfl, hb1⟩
    have HB1 := Lib.hid hb1
    have HN0 := Lib.hid (Below.refl w1.heap.size w1)
    clear hb1 g1
    go_wp2_with fail
    go_loopw [6, 7, 8] (fun s6 s7 s8 wr => ∃ k : Nat, s8 = .int .i64 k ∧ s6 = .int .i64 ((S.take k).countP (fun u => ltS u s) : Nat) ∧ s7 = .bool ((S.take k).any fun u => textS u == textS s) ∧ k ≤ S.length ∧ Hid (Below w1.heap.size w1 wr)) (fun _ _ s8 _ => S.length - (intOf s8).toNat)
    case atStart => exact ⟨0, rfl, rfl, rfl, Nat.zero_le _, HN0⟩
    case round =>
      clear HN0
      obtain ⟨k, rfl, rfl, rfl, hk, HN⟩ := hrel
      rename World => wz
      by_cases hkl : k < S.length
      case pos =>
        have t1 : (k : Int) < (S.length : Int) := by omega
        have t2 : IntKind.i64.wrap ((k : Int) + 1) = (k : Int) + 1 := IntWalk.i64_in _ (by omega)
        obtain ⟨x, hx⟩ : ∃ x, S[k]? = some x := ⟨_, List.getElem?_eq_getElem hkl⟩
        have hbz := HI.out.2.2.on (HB1.out.on HN.out)
        obtain ⟨b2, p2, c2, u2, hveq2, _, hc2, hu2⟩ := ((HI.out.1.on (HB1.out.on HN.out)).reads hbz).at hx
        obtain rfl : aA = some ⟨b2, p2, none⟩ := by cases hveq2; rfl
        obtain ⟨au2, cu2, rfl, _⟩ := hu2.parts
        have hxl : x.length ≤ 1000000000 := HK.out x (List.mem_of_mem_take ((HI.out.2.1.mem x).1 (List.mem_of_getElem? hx)))
        have hcn := count_snoc (s := s) hx
        have hsn := any_snoc (s := s) hx
        have hcb : (S.take k).countP (fun u => ltS u s) ≤ k := Nat.le_trans List.countP_le_length (by rw [List.length_take]; omega)
        have HX2 := Lib.hid hu2
        clear hveq2 hx hu2 hbz
        generalize hCN : (S.take (k + 1)).countP (fun u => ltS u s) = cn at hcn
        generalize hSN : ((S.take (k + 1)).any fun u => textS u == textS s) = sn at hsn
        generalize hC0 : (S.take k).countP (fun u => ltS u s) = cc at hcn hcb ⊢
        generalize hS0 : ((S.take k).any fun u => textS u == textS s) = sm at hsn ⊢
        have HG := Lib.hid (And.intro hCN hSN)
        clear hCN hSN hC0 hS0
        have t3 : IntKind.i64.wrap ((cc : Int) + 1) = (cc : Int) + 1 := IntWalk.i64_in _ (by omega)
        cases hlt : ltS x s with
        | true =>
          have e1 : Op.bytesLess (textS x).toList (textS s).toList = true := hlt
          have hne : (textS x == textS s) = false := Bool.eq_false_iff.2 fun e => by rw [MapKept.bytes_beq] at e; unfold ltS at hlt; rw [e, lessB_irrefl] at hlt; cases hlt
          have t8 : ¬ ((textS x).toList = (textS s).toList) := fun e => by rw [Bool.eq_false_iff] at hne; exact hne ((MapKept.bytes_beq _ _).2 (text_eq e))
          rw [hlt] at hcn
          rw [hne, Bool.or_false] at hsn
          clear hne
          simp only [if_true] at hcn
          subst hcn hsn
          clear hlt
          cases sn with
          | true =>
            go_wp2_with fail
            refine (rtext_any _ x _ HX2.out (by omega)).mono ?_
            rintro _ w3 ⟨rfl, hb3⟩
            have HN3 := Lib.hid (HN.out.on hb3)
            clear hb3
            go_wp2_with fail
            go_roundw
            case measure => simp [intOf] <;> omega
            case rel => exact ⟨k + 1, by simp, by first | (rw [HG.out.1]; done) | (rw [HG.out.1]; simp), by first | (rw [HG.out.2]; done) | (rw [HG.out.2]; simp; done) | (rw [HG.out.2]; simp; exact t8), by omega, HN3⟩
          | false =>
            go_wp2_with fail
            refine (rtext_any _ x _ HX2.out (by omega)).mono ?_
            rintro _ w3 ⟨rfl, hb3⟩
            have HN3 := Lib.hid (HN.out.on hb3)
            clear hb3
            go_wp2_with fail
            go_roundw
            case measure => simp [intOf] <;> omega
            case rel => exact ⟨k + 1, by simp, by first | (rw [HG.out.1]; done) | (rw [HG.out.1]; simp), by first | (rw [HG.out.2]; done) | (rw [HG.out.2]; simp; done) | (rw [HG.out.2]; simp; exact t8), by omega, HN3⟩
        | false =>
          have e1 : Op.bytesLess (textS x).toList (textS s).toList = false := hlt
          rw [hlt] at hcn
          simp only [Bool.false_eq_true, if_false, Nat.add_zero] at hcn
          subst hcn
          clear hlt
          cases heq : (textS x == textS s) with
          | true =>
            have t8 : (textS x).toList = (textS s).toList := by rw [(MapKept.bytes_beq _ _).1 heq]
            have t9 : Op.bytesLess (textS s).toList (textS s).toList = false := lessB_irrefl _
            rw [heq, Bool.or_true] at hsn
            subst hsn
            clear heq
            cases sm with
            | true =>
              go_wp2_with fail
              refine (rtext_any _ x _ HX2.out (by omega)).mono ?_
              rintro _ w3 ⟨rfl, hb3⟩
              have HN3 := Lib.hid (HN.out.on hb3)
              clear hb3
              go_wp2_with fail
              go_roundw
              case measure => simp [intOf] <;> omega
              case rel => exact ⟨k + 1, by simp, by first | (rw [HG.out.1]; done) | (rw [HG.out.1]; simp), by first | (rw [HG.out.2]; done) | (rw [HG.out.2]; simp; done) | (rw [HG.out.2]; simp; exact t8), by omega, HN3⟩
            | false =>
              go_wp2_with fail
              refine (rtext_any _ x _ HX2.out (by omega)).mono ?_
              rintro _ w3 ⟨rfl, hb3⟩
              have HN3 := Lib.hid (HN.out.on hb3)
              clear hb3
              go_wp2_with fail
              go_roundw
              case measure => simp [intOf] <;> omega
              case rel => exact ⟨k + 1, by simp, by first | (rw [HG.out.1]; done) | (rw [HG.out.1]; simp), by first | (rw [HG.out.2]; done) | (rw [HG.out.2]; simp; done) | (rw [HG.out.2]; simp; exact t8), by omega, HN3⟩
          | false =>
            have t8 : ¬ ((textS x).toList = (textS s).toList) := fun e => by rw [Bool.eq_false_iff] at heq; exact heq ((MapKept.bytes_beq _ _).2 (text_eq e))
            rw [heq, Bool.or_false] at hsn
            subst hsn
            clear heq
            cases sn with
            | true =>
              go_wp2_with fail
              refine (rtext_any _ x _ HX2.out (by omega)).mono ?_
              rintro _ w3 ⟨rfl, hb3⟩
              have HN3 := Lib.hid (HN.out.on hb3)
              clear hb3
              go_wp2_with fail
              go_roundw
              case measure => simp [intOf] <;> omega
              case rel => exact ⟨k + 1, by simp, by first | (rw [HG.out.1]; done) | (rw [HG.out.1]; simp), by first | (rw [HG.out.2]; done) | (rw [HG.out.2]; simp; done) | (rw [HG.out.2]; simp; exact t8), by omega, HN3⟩
            | false =>
              go_wp2_with fail
              refine (rtext_any _ x _ HX2.out (by omega)).mono ?_
              rintro _ w3 ⟨rfl, hb3⟩
              have HN3 := Lib.hid (HN.out.on hb3)
              clear hb3
              go_wp2_with fail
              go_roundw
              case measure => simp [intOf] <;> omega
              case rel => exact ⟨k + 1, by simp, by first | (rw [HG.out.1]; done) | (rw [HG.out.1]; simp), by first | (rw [HG.out.2]; done) | (rw [HG.out.2]; simp; done) | (rw [HG.out.2]; simp; exact t8), by omega, HN3⟩
      case neg =>
        obtain rfl : k = S.length := by omega
        have t1 : ¬ ((S.length : Int) < (S.length : Int)) := by omega
        rw [List.take_length]
        have hbz := HI.out.2.2.on (HB1.out.on HN.out)
        cases hsm : (S.any fun u => textS u == textS s) with
        | true =>
          have HE := Lib.hid (show SoQ Q w.heap.size w wz (.slice aA S.length cA) S ∧ US (l.take (i + 1)) S ∧ Below w.heap.size w wz from ⟨HI.out.1.on (HB1.out.on HN.out), by
            obtain ⟨t, ht, e⟩ := List.any_eq_true.1 hsm
            have hto : Okz t := HOK.out t (List.mem_of_mem_take ((HI.out.2.1.mem t).1 ht))
            have : t = s := text_inj hto HSO.out ((MapKept.bytes_beq _ _).1 e)
            rw [take_succ HS.out]
            exact HI.out.2.1.same (this ▸ ht), hbz⟩)
          clear hsm hbz
          go_wp2_with fail
          go_roundw
          case measure => simp [intOf] <;> omega
          case rel => exact ⟨i + 1, aA, cA, S, by simp, by simp, by omega, HE⟩
        | false =>
          have hnew : ∀ u ∈ S, textS u ≠ textS s := fun u hu e => by
            exact List.any_eq_false.1 hsm u hu ((MapKept.bytes_beq _ _).2 e)
          have HUS := Lib.hid (show US (l.take (i + 1)) (S.take (S.countP fun u => ltS u s) ++ [s] ++ S.drop (S.countP fun u => ltS u s)) by rw [take_succ HS.out]; exact HI.out.2.1.new hnew rfl)
          have hnl : (S.countP fun u => ltS u s) ≤ S.length := List.countP_le_length
          generalize (S.countP fun u => ltS u s) = n at HUS hnl
          obtain ⟨a6, c6, W6, r6, hb6, a8, c8, W8, r8, hb8, hend, hmid⟩ := so_insq (n₀ := w.heap.size) (HI.out.1.on (HB1.out.on HN.out)) hbz HU.out hnl hSl (Nat.le_refl _)
          have g6 : W6.cell? ⟨b, p + i, none⟩ = some (.slice au s.length cu) := ((hbz.on hb6).cell (p := ⟨b, p + i, none⟩) HLT.out.1).trans HLT.out.2
          have HBZ := Lib.hid hbz
          have HB8 := Lib.hid hb8
          have t3 : (n : Int) ≤ (S.length : Int) := by omega
          have t4 : (0 : Int) ≤ (n : Int) := by omega
          have hcap : S.length ≤ cA := by
            obtain ⟨vs, a, _⟩ := HI.out.1
            obtain ⟨_, _, e, h⟩ := own_len a
            obtain ⟨_, _, rfl⟩ := Value.slice.inj e
            exact h
          clear hsm hnew hbz hb6 hb8
          by_cases hn : n = S.length
          · subst hn
            obtain ⟨h8, r9⟩ := hend rfl
            have HE := Lib.hid (show SoQ Q w.heap.size w W8 (.slice a8 (S.length + 1) c8) (S.take S.length ++ [s] ++ S.drop S.length) ∧ US (l.take (i + 1)) (S.take S.length ++ [s] ++ S.drop S.length) ∧ Below w.heap.size w W8 from ⟨h8, HUS.out, HBZ.out.on HB8.out⟩)
            have hlen : (S.take S.length ++ [s] ++ S.drop S.length).length = S.length + 1 := by simp
            rw [← hlen] at HE
            clear hend hmid h8
            by_cases hcc : cA = S.length
            · subst hcc
              cases aA with
              | none =>
                go_wp2_with fail
                go_roundw
                case measure => simp [intOf] <;> omega
                case rel => exact ⟨i + 1, a8, c8, _, by simp, by rw [hlen], by omega, HE⟩
              | some ad =>
                go_wp2_with fail
                go_roundw
                case measure => simp [intOf] <;> omega
                case rel => exact ⟨i + 1, a8, c8, _, by simp, by rw [hlen], by omega, HE⟩
            · have t5 : ¬ (cA = S.length) := hcc
              have t6 : ¬ (S.length = cA) := fun e => hcc e.symm
              cases aA with
              | none =>
                go_wp2_with fail
                go_roundw
                case measure => simp [intOf] <;> omega
                case rel => exact ⟨i + 1, a8, c8, _, by simp, by rw [hlen], by omega, HE⟩
              | some ad =>
                go_wp2_with fail
                go_roundw
                case measure => simp [intOf] <;> omega
                case rel => exact ⟨i + 1, a8, c8, _, by simp, by rw [hlen], by omega, HE⟩
          · obtain ⟨g, rfl, a9, c9, W9, r9, hb9, h9⟩ := hmid (by omega)
            have HE := Lib.hid (show SoQ Q w.heap.size w W9 (.slice a9 (S.length + 1) c9) (S.take n ++ [s] ++ S.drop n) ∧ US (l.take (i + 1)) (S.take n ++ [s] ++ S.drop n) ∧ Below w.heap.size w W9 from ⟨h9, HUS.out, HBZ.out.on hb9⟩)
            have hlen : (S.take n ++ [s] ++ S.drop n).length = S.length + 1 := by simp; omega
            rw [← hlen] at HE
            have t5 : ¬ (cA = n) := by omega
            clear hend hmid h9 hb9
            go_wp2_with fail
            go_roundw
            case measure => simp [intOf] <;> omega
            case rel => exact ⟨i + 1, a9, c9, _, by simp, by rw [hlen], by omega, HE⟩
end Ln
end Go.Proofs.Ytppjmmdiglnkfaa
namespace Go.Proofs.Ytppjmmdiglnkfaa
set_option maxRecDepth 100000
open Go.ChangeShapes Go.WideShapes Go.ChangeAt Go.RowKit Go.PlainAid Go.Deep
namespace Ln
theorem store_sum (p v : Value) : Instr.storeAt 33 p v = storeS 33 p v := rfl
theorem sum_new (w : World) (x y z : Value) (hx : x.oneCell' = true := by rfl) (hy : y.oneCell' = true := by rfl) (hz : z.oneCell' = true := by rfl) :
    (storeS 33 (.pointer (some ⟨w.heap.size, 0, none⟩)) (.agg #[x, y, z])).run Try.prog (w.alloc (.cells #[.slice none 0 0, .slice none 0 0, .int .i64 0] 33)) = .ok () (w.alloc (.cells #[x, y, z] 33)) := by
  have hsz : (Try.prog.info? 33).map (·.size) = some 3 := by kernel_rfl
  have h := run_storeVar_row (P := Try.prog) (w.alloc (.cells #[.slice none 0 0, .slice none 0 0, .int .i64 0] 33)) w.heap.size 33 33 _ #[x, y, z] (heap_alloc_new w _) (by rw [hsz]; rfl) rfl (by simp [hx, hy, hz])
  rw [setRow_alloc] at h
  unfold storeS
  simp only [Instr.storeAt, Instr.sureAddr, Sem.run_bind, Sem.run_pure, Result.andThen_ok]
  exact h
/-- An empty row, and behind it two rows. -/
theorem two_rows {W : World} {a1 a2 : Option Addr} {c1 c2 : Nat} {l1 l2 : List (List Int)} (h1 : Sts W (.slice a1 l1.length c1) l1) (h2 : Sts W (.slice a2 l2.length c2) l2) (hl : l1.length + l2.length ≤ 1000000) :
    Below W.heap.size W (W.alloc (.cells #[] 27)) ∧ ∃ a6 c6 W6 a7 c7 W7, (appSt #[.slice (some ⟨W.heap.size, 0, none⟩) 0 0, .slice a1 l1.length c1]).run Try.prog (W.alloc (.cells #[] 27)) = .ok (.slice a6 l1.length c6) W6 ∧
      (appSt #[.slice a6 l1.length c6, .slice a2 l2.length c2]).run Try.prog W6 = .ok (.slice a7 (l1.length + l2.length) c7) W7 ∧ Below W.heap.size W W6 ∧ Below W.heap.size W W7 ∧ Sts W7 (.slice a7 (l1.length + l2.length) c7) (l1 ++ l2) := by
  obtain ⟨x1, r1, e1⟩ := h1
  obtain ⟨x2, r2, e2⟩ := h2
  have hba : Below W.heap.size W (W.alloc (.cells #[] 27)) := by go_grown
  have hm0 : (W.alloc (.cells #[] 27)).ownsRow W.heap.size 27 1 (.slice (some ⟨W.heap.size, 0, none⟩) 0 0) 0 [] := World.ownsRow_made W #[] 0 (Nat.le_refl _) (Nat.zero_le _) rfl
  obtain ⟨v6, W6, hr6, ho6, hg6⟩ := row_app rtSt_good hm0 (r1.on hba) (Sts.one r1 e1) hba.size (by omega)
  rw [Nat.zero_add, List.nil_append] at ho6
  obtain ⟨a6, c6, rfl, _⟩ := own_len ho6
  have hb6 : Below W.heap.size W W6 := hba.grown hg6 hba.size (fun k e => by simp [Value.ownBlock] at e; omega)
  obtain ⟨v7, W7, hr7, ho7, hg7⟩ := row_app rtSt_good ho6 (r2.on hb6) (Sts.one r2 e2) hb6.size (by omega)
  obtain ⟨a7, c7, rfl, _⟩ := own_len ho7
  have hb7 : Below W.heap.size W W7 := hb6.grown hg7 hb6.size (fun k e => (row_block ho6 e).1)
  refine ⟨hba, a6, c6, W6, a7, c7, W7, hr6, hr7, hb6, hb7, x1 ++ x2, by rw [List.length_append]; exact own_rd ho7, fun i u s hu hs => ?_⟩
  have hx1 : x1.length = l1.length := by rw [r1.1, Nat.mul_one]
  by_cases c : i < l1.length
  · rw [List.getElem?_append_left (by omega)] at hu
    rw [List.getElem?_append_left c] at hs
    exact (e1 i u s hu hs).on hb7
  · rw [List.getElem?_append_right (by omega)] at hu hs
    rw [hx1] at hu
    exact (e2 _ u s hu hs).on hb7
end Ln
end Go.Proofs.Ytppjmmdiglnkfaa
