/- The law's awake. -/
import Derived.Test.YtfcicpcpdklceaaSFree
namespace Go.Proofs.Ytfcicpcpdklceaa
set_option maxRecDepth 100000
open Go.ChangeShapes Go.WideShapes Go.ChangeAt Go.RowKit Go.PlainAid Go.ChangeMaps Go.MapKept
open Go.Sort (grow)

theorem sorted_eq : ∀ {a b : List Int}, a.Pairwise (· < ·) → b.Pairwise (· < ·) → (∀ x, x ∈ a ↔ x ∈ b) → a = b
  | [], [], _, _, _ => rfl
  | [], y :: b, _, _, h => absurd ((h y).2 List.mem_cons_self) (by simp)
  | x :: a, [], _, _, h => absurd ((h x).1 List.mem_cons_self) (by simp)
  | x :: a, y :: b, ha, hb, h => by
    obtain ⟨a1, a2⟩ := List.pairwise_cons.1 ha
    obtain ⟨b1, b2⟩ := List.pairwise_cons.1 hb
    have e : x = y := by
      rcases List.mem_cons.1 ((h x).1 List.mem_cons_self) with e | e
      · exact e
      · rcases List.mem_cons.1 ((h y).2 List.mem_cons_self) with e' | e'
        · exact e'.symm
        · have := a1 y e'; have := b1 x e; omega
    subst e
    congr 1
    refine sorted_eq a2 b2 fun z => ⟨fun hz => ?_, fun hz => ?_⟩
    · rcases List.mem_cons.1 ((h z).1 (List.mem_cons_of_mem _ hz)) with rfl | e
      · have := a1 z hz; omega
      · exact e
    · rcases List.mem_cons.1 ((h z).2 (List.mem_cons_of_mem _ hz)) with rfl | e
      · have := b1 z hz; omega
      · exact e
theorem keys_eq {T : Int → Option ByteArray} {a b : List Int} (ha : Keys T a) (hb : Keys T b) : a = b := sorted_eq ha.1 hb.1 fun x => by rw [ha.2, hb.2]
def txt (c : UInt8) : ByteArray := ⟨#[c]⟩
theorem txt_size (c : UInt8) : (txt c).size = 1 := rfl
theorem write_ok {h : Hd} {k : Int} {s : ByteArray} (h0 : 0 ≤ k) (h1 : k < h.pages) (hs : s.size ≤ 256) (T : Int → Option ByteArray) : swriteE h k s = 0 ∧ swriteT h T k s = put T k (filled s) := by
  unfold swriteE swriteT
  rw [if_neg (by omega), if_neg (by omega), if_neg (by omega)]
  exact ⟨rfl, rfl⟩
/-- The example's head, and its transactions. -/
def exH : Hd := firstHd 10 3
theorem exH_pages : exH.pages = 5 := rfl
theorem exH_room : exH.room = 3 := rfl
theorem exH_seq : exH.seq = 2 := rfl
def exT1 : Int → Option ByteArray := put (put noPages 0 (filled (txt 97))) 4 (filled (txt 98))
def exT2 : Int → Option ByteArray := put (put (put noPages 0 (filled (txt 120))) 1 (filled (txt 121))) 2 (filled (txt 122))
theorem exT1_keys : Keys exT1 [0, 4] := by
  refine ⟨by decide, fun x => ?_⟩
  unfold exT1 put noPages
  by_cases h4 : x = 4
  · simp [h4]
  · by_cases h0 : x = 0
    · simp [h0]
    · simp [h4, h0]
theorem exT2_keys : Keys exT2 [0, 1, 2] := by
  refine ⟨by decide, fun x => ?_⟩
  unfold exT2 put noPages
  by_cases h2 : x = 2
  · simp [h2]
  · by_cases h1 : x = 1
    · simp [h1]
    · by_cases h0 : x = 0
      · simp [h0]
      · simp [h2, h1, h0]
theorem exT1_ok : TxOk exH exT1 := by
  have h := swriteT_ok (swriteT_ok (noPages_ok exH) 0 (txt 97)) 4 (txt 98)
  rwa [(write_ok (by decide) (by rw [exH_pages]; decide) (by decide) _).2, (write_ok (by decide) (by rw [exH_pages]; decide) (by decide) _).2] at h
theorem exT2_ok {h : Hd} (hp : h.pages = 5) : TxOk h exT2 := by
  have h1 := swriteT_ok (swriteT_ok (swriteT_ok (noPages_ok h) 0 (txt 120)) 1 (txt 121)) 2 (txt 122)
  rwa [(write_ok (by decide) (by rw [hp]; decide) (by decide) _).2, (write_ok (by decide) (by rw [hp]; decide) (by decide) _).2, (write_ok (by decide) (by rw [hp]; decide) (by decide) _).2] at h1
theorem pageS_none (d : D) (h : Hd) (k : Nat) : pageS d h noPages k = d.last (2 + h.room + k) := by
  show d.last (((2 + h.room : Nat) : Int) + (k : Int)).toNat = _
  rw [show (((2 + h.room : Nat) : Int) + (k : Int)).toNat = 2 + h.room + k by omega]
set_option maxHeartbeats 2000000 in
theorem awake_any (w : World) : Calls Try.prog 12 #[] w fun e w' => e = .returned (.bool true) ∧ Below w.heap.size w w' := by
  have hset := formatted_settled 10 3 (by decide) (by decide) (by decide)
  have hn10 := formatted_n 10 3 (by decide)
  have hB := begun_any 10 3 w (by decide) (by decide) (by decide)
  change Settled (formatted (newD 10) 3) exH none at hset
  change Calls _ _ _ _ (fun e w' => ∃ p q bm, e = _ ∧ StT w p q bm 0 (formatted (newD 10) 3) exH noPages false [] w') at hB
  generalize formatted (newD 10) 3 = d at *
  have hwf : exH.Wf := ⟨by rw [exH_seq]; decide, by decide, by rw [exH_room]; decide, by rw [exH_pages]; decide⟩
  obtain ⟨ce, cs, cp⟩ := commit_settled hset ⟨by decide, by decide, by decide⟩ exT1_ok exT1_keys (by decide) (by rw [exH_seq]; decide)
  have HB := Lib.hid hB
  have HC := Lib.hid cs
  have HCP := Lib.hid cp
  have HCE := Lib.hid ce
  have HSet := Lib.hid hset
  have HN := Lib.hid hn10
  clear hset hB cs cp ce hn10
  go_enter Try.func12, Try.ntmps12
  go_wp2_with fail
  refine HB.out.mono ?_
  rintro e w1 ⟨p, q, bm, rfl, H1⟩
  have H1' := Lib.hid H1
  clear H1
  go_wp2_with fail
  refine (slen_any _ q p bm exH false H1'.out.at).mono ?_
  rintro e _ ⟨rfl, rfl⟩
  rw [exH_pages]
  go_wp2_with fail
  refine (swrite_any H1'.out 0 (txt 97) (by decide) (by decide) (by decide) (by decide)).mono ?_
  rintro e w2 ⟨rfl, H2, _⟩
  obtain ⟨we, wt⟩ := write_ok (h := exH) (k := 0) (s := txt 97) (by decide) (by rw [exH_pages]; decide) (by decide) noPages
  rw [we]
  rw [wt] at H2
  have H2' := Lib.hid H2
  clear H2 we wt
  go_wp2_with fail
  refine (swrite_any H2'.out 4 (txt 98) (by decide) (by decide) (by decide) (by decide)).mono ?_
  rintro e w3 ⟨rfl, H3, _⟩
  obtain ⟨we, wt⟩ := write_ok (h := exH) (k := 4) (s := txt 98) (by decide) (by rw [exH_pages]; decide) (by decide) (put noPages 0 (filled (txt 97)))
  rw [we]
  rw [wt] at H3
  have H3' : Hid (StT w p q bm 2 d exH exT1 false [] w3) := Lib.hid H3
  clear H3 we wt
  go_wp2_with fail
  refine (scommit_any H3'.out (by decide) exT1_ok hwf (by rw [exH_seq]; decide) (by rw [HSet.out.late]; decide)).mono ?_
  rintro e w4 ⟨ks, hk, _, hc⟩
  obtain rfl := keys_eq hk exT1_keys
  rcases hc with ⟨hc, _⟩ | ⟨_, hc, _⟩ | ⟨_, _, rfl, h', r1, r2, r3, H4⟩
  · cases hc
  · exact absurd hc (by decide)
  rw [HCE.out] at H4 ⊢
  obtain rfl := r3 HCE.out
  have hroom : ((exH.next (packB (txPages exT1 [0, 4])).length).next 0).room = 3 := rfl
  have hpages : ((exH.next (packB (txPages exT1 [0, 4])).length).next 0).pages = 5 := rfl
  have hwf2 : ((exH.next (packB (txPages exT1 [0, 4])).length).next 0).Wf := ⟨by show 2 + 1 + 1 ≤ _; decide, Nat.zero_le _, by rw [hroom]; decide, by rw [hpages]; decide⟩
  have hseq2 : ((exH.next (packB (txPages exT1 [0, 4])).length).next 0).seq + 2 < 1000000 := by show 2 + 1 + 1 + 2 < _; decide
  have HS2 := HC.out
  unfold Hd.behind at HS2
  have H4' : Hid (StT w p q bm 2 (d.ops (commitOps exH (txPages exT1 [0, 4]))) ((exH.next (packB (txPages exT1 [0, 4])).length).next 0) noPages false [] w4) := Lib.hid H4
  have hpgs : ∀ k : Nat, k < 5 → pageS (d.ops (commitOps exH (txPages exT1 [0, 4]))) ((exH.next (packB (txPages exT1 [0, 4])).length).next 0) noPages k = pageS d exH exT1 k := fun k hk => by
    rw [pageS_none, hroom]; exact HCP.out k hk
  clear H4 r1 r2 r3 hk HC HCP HCE HB H1' H2' H3'
  generalize ((exH.next (packB (txPages exT1 [0, 4])).length).next 0) = h2 at *
  generalize d.ops (commitOps exH (txPages exT1 [0, 4])) = d2 at *
  have hb4 : pageS d2 h2 noPages ((4 : Nat) : Int) = filled (txt 98) := by rw [hpgs 4 (by decide)]; rfl
  have hb0 : pageS d2 h2 noPages ((0 : Nat) : Int) = filled (txt 97) := by rw [hpgs 0 (by decide)]; rfl
  have HP4 := Lib.hid hb4
  have HP0 := Lib.hid hb0
  have HS2' := Lib.hid HS2
  have HR := Lib.hid hroom
  have HPG := Lib.hid hpages
  have HWF := Lib.hid hwf2
  have HSQ := Lib.hid hseq2
  clear hb4 hb0 HS2 hroom hpages hwf2 hseq2 hpgs HSet
  go_wp2_with fail
  refine (sread_any H4'.out ((4 : Nat) : Int) (by decide) (by rw [HPG.out]; decide) HWF.out HS2'.out.free.2 HS2'.out.n).mono ?_
  rintro e w5 ⟨rfl, H5, _⟩
  rw [HP4.out]
  have H5' := Lib.hid H5
  clear H5
  have hsz := filled_size (txt 98)
  have HZ := Lib.hid hsz
  clear hsz
  have CF := Lib.hid (fun w => filled_any (txt 98) w (by decide))
  have CG := Lib.hid (fun w => filled_any (txt 97) w (by decide))
  generalize filled (txt 98) = F98 at *
  generalize filled (txt 97) = F97 at *
  go_wp2_with fail
  refine (CF.out _).mono ?_
  rintro e w6 ⟨rfl, hb6⟩
  have H6' := Lib.hid (H5'.out.on hb6)
  clear hb6
  go_wp2_with fail
  refine (swrite_any H6'.out 0 (txt 120) (by decide) (by decide) (by decide) (by decide)).mono ?_
  rintro e w7 ⟨rfl, H7, _⟩
  obtain ⟨we, wt⟩ := write_ok (h := h2) (k := 0) (s := txt 120) (by decide) (by rw [HPG.out]; decide) (by decide) noPages
  rw [we]
  rw [wt] at H7
  have H7' := Lib.hid H7
  clear H7 we wt
  go_wp2_with fail
  refine (swrite_any H7'.out 1 (txt 121) (by decide) (by decide) (by decide) (by decide)).mono ?_
  rintro e w8 ⟨rfl, H8, _⟩
  obtain ⟨we, wt⟩ := write_ok (h := h2) (k := 1) (s := txt 121) (by decide) (by rw [HPG.out]; decide) (by decide) (put noPages 0 (filled (txt 120)))
  rw [we]
  rw [wt] at H8
  have H8' := Lib.hid H8
  clear H8 we wt
  go_wp2_with fail
  refine (swrite_any H8'.out 2 (txt 122) (by decide) (by decide) (by decide) (by decide)).mono ?_
  rintro e w9 ⟨rfl, H9, _⟩
  obtain ⟨we, wt⟩ := write_ok (h := h2) (k := 2) (s := txt 122) (by decide) (by rw [HPG.out]; decide) (by decide) (put (put noPages 0 (filled (txt 120))) 1 (filled (txt 121)))
  rw [we]
  rw [wt] at H9
  have H9' : Hid (StT w p q bm 5 d2 h2 exT2 false [] w9) := Lib.hid H9
  clear H9 we wt
  go_wp2_with fail
  refine (scommit_any H9'.out (by decide) (exT2_ok HPG.out) HWF.out HSQ.out (by rw [HS2'.out.late]; decide)).mono ?_
  rintro e w10 ⟨ks, hk, _, hc⟩
  obtain rfl := keys_eq hk exT2_keys
  rcases hc with ⟨hc, _⟩ | ⟨_, _, rfl, H10⟩ | ⟨_, hc, _⟩
  · cases hc
  rotate_left 1
  · rw [HR.out] at hc; exact absurd hc (by decide)
  have H10' := Lib.hid H10
  clear H10 hk H4' H5' H6' H7' H8' H9'
  go_wp2_with fail
  refine (sread_any H10'.out ((0 : Nat) : Int) (by decide) (by rw [HPG.out]; decide) HWF.out HS2'.out.free.2 HS2'.out.n).mono ?_
  rintro e w11 ⟨rfl, H11, _⟩
  rw [HP0.out]
  have H11' := Lib.hid H11
  clear H11
  go_wp2_with fail
  refine (CG.out _).mono ?_
  rintro e w12 ⟨rfl, hb12⟩
  have H12' := Lib.hid (H11'.out.on hb12)
  clear hb12
  go_wp2
  go_returns
  exact ⟨rfl, H12'.out.below⟩
end Go.Proofs.Ytfcicpcpdklceaa
