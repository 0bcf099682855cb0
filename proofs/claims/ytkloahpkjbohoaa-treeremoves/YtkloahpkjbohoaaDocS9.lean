/- The program's Insert of layer 10 where a node can't be put there; the chapter's small document; wakes: it holds there; what lay in the world lies there still. Conditions: a document as it lies in the world; rows of at most 2^47 bytes. -/
import Derived.Test.YtkloahpkjbohoaaDocS8
import Derived.Test.YtkloahpkjbohoaaDocR5
namespace Go.Proofs.Ytkloahpkjbohoaa
open Go.RowKit

set_option maxHeartbeats 4000000 in
set_option maxRecDepth 100000 in
theorem insert_order (v : Value) (l : List Nd) (p c : Nat) (bf : Int) (w : World) (hv : NodesV w v l) (hz : DocSz l) (hR : Right l) (hp : p < l.length) (hc : c < l.length)
    (hbad : noName l[p].name = true ∨ c = 0 ∨ (c : Int) ∈ anc l (p : Int)) :
    Calls Try.prog 16 #[v, .int .i64 (p : Int), .int .i64 (c : Int), .int .i64 bf] w fun e w' => e = .returned (.tuple #[.slice none 0 0, .int .i64 5]) ∧ Below w.heap.size w w' := by
  have HP := hide (fun W (hb : Below w.heap.size w W) => isThere_any v l (p : Int) W (hv.below hb) hz)
  have HC := hide (fun W (hb : Below w.heap.size w W) => isThere_any v l (c : Int) W (hv.below hb) hz)
  have e1 : hasN l (p : Int) = true := by unfold hasN; rw [decide_eq_true ⟨by omega, by omega⟩, right_is.2 hR]; rfl
  have e2 : hasN l (c : Int) = true := by unfold hasN; rw [decide_eq_true ⟨by omega, by omega⟩, right_is.2 hR]; rfl
  rw [e1] at HP
  rw [e2] at HC
  have HU := hide (fun W (hb : Below w.heap.size w W) => upwards_any v l p W (hv.below hb) hR hp)
  have AL : Hid ((anc l (p : Int)).length ≤ 17592186044416) := by
    have := nodup_len l.length (anc l (p : Int)) (anc_nodup l _ _ (hR.ende (by omega))) (anc_range l (fun i hi => (hR.par i hi).2) _ _ (by omega))
    have := hR.len
    show _ ≤ _; omega
  obtain ⟨pp, cc, rfl, hv⟩ := hv
  rcases hv with hv | ⟨b, o, rfl, hv⟩
  · rw [hv] at hp; simp at hp
  obtain ⟨va, vk, N0⟩ := hv p hp
  have NW : Hid (∀ W, Below w.heap.size w W → NodeAt W b (o + p * 5) l[p] va vk) := fun W hb => N0.below hb
  have HT := hide (fun W => isText_any l[p].name l[p].text va l[p].parent vk W)
  have i0 : (0 : Int) ≤ (p : Int) := by omega
  have i1 : (p : Int) < (l.length : Int) := by omega
  have HB := hide hbad
  have hlen := hR.len.2
  clear hv N0 e1 e2 hbad hz
  go_enter Try.func16, Try.ntmps16
  go_wp2_with fail
  refine (HP.out _ (Below.refl _ _)).mono ?_
  rintro e w1 ⟨rfl, b1⟩
  go_wp2_with fail
  refine (HC.out _ b1).mono ?_
  rintro e w2 ⟨rfl, b2⟩
  have B2 := hide (chain b1 b2)
  have a0 := (NW.out w2 B2.out).name
  have a1 := (NW.out w2 B2.out).text
  have a2 := (NW.out w2 B2.out).attrs
  have a3 := (NW.out w2 B2.out).parent
  have a4 := (NW.out w2 B2.out).kids
  clear b1 b2
  go_wp2_with fail
  refine (HT.out _).mono ?_
  rintro e w3 ⟨rfl, b3⟩
  have B3 := hide (chain B2.out b3)
  clear b3 a0 a1 a2 a3 a4 B2
  cases q1 : noName l[p].name with
  | true =>
    clear HB q1
    go_wp2_with fail
    go_ret2
    exact ⟨rfl, B3.out⟩
  | false =>
    by_cases q2 : c = 0
    · have f1 : ((c : Int) == 0) = true := by rw [q2]; rfl
      clear HB q1 q2
      go_wp2_with fail
      go_ret2
      exact ⟨rfl, B3.out⟩
    · have f1 : ((c : Int) == 0) = false := by rw [beq_eq_false_iff_ne]; omega
      have M : Hid ((c : Int) ∈ anc l (p : Int)) := by
        rcases HB.out with t | t | t
        · rw [q1] at t; cases t
        · exact absurd t q2
        · exact t
      clear HB q1 q2
      go_wp2_with fail
      refine (HU.out _ B3.out).mono ?_
      rintro e w4 ⟨v4, rfl, k4, b4⟩
      have HI := hide (containsI_any v4 (anc l (p : Int)) (c : Int) w4 k4.ints AL.out)
      rw [decide_eq_true M.out] at HI
      have B4 := hide (chain B3.out b4)
      clear b4 k4
      go_wp2_with fail
      refine HI.out.mono ?_
      rintro e w5 ⟨rfl, hw⟩
      obtain rfl : w4 = w5 := hw.symm
      go_wp2_with fail
      go_ret2
      exact ⟨rfl, B4.out⟩

/-- The chapter's small document. -/
def someL : List Nd := [⟨⟨#[104, 116, 109, 108]⟩, ⟨#[]⟩, [], -1, [1]⟩, ⟨⟨#[102, 111, 114, 109]⟩, ⟨#[]⟩, [], 0, [2]⟩, ⟨⟨#[105, 110, 112, 117, 116]⟩, ⟨#[]⟩, [], 1, []⟩]
theorem some_right : rightB someL = true := by decide +kernel
theorem some_sz : DocSz someL := by
  refine ⟨by decide, fun n hn => ?_⟩
  simp only [someL, List.mem_cons, List.not_mem_nil, or_false] at hn
  rcases hn with rfl | rfl | rfl <;> exact ⟨by decide, by decide, (fun _ q => by cases q), by decide, by decide⟩
theorem some_ord : ordL someL 0 = [0, 1, 2] := by decide +kernel
theorem some_anc : (1 : Int) ∈ anc someL 2 := by decide +kernel
set_option maxHeartbeats 2000000 in
theorem some_any (w : World) :
    Calls Try.prog 36 #[] w fun e w' => ∃ v', e = .returned v' ∧ NodesV w' v' someL ∧ Below w.heap.size w w' := by
  go_enter Try.func36, Try.ntmps36
  go_wp2_with fail
  go_ret
  generalize h1 : w.alloc (.cells #[Value.int .i64 1] 3) = u1
  have n1 : NB u1 w.heap.size [.int .i64 1] 3 := by rw [← h1]; exact NB.new w _ _
  have s1 : u1.heap.size = w.heap.size + 1 := by rw [← h1]; simp
  have c1 : Chg [] w u1 := by rw [← h1]; exact Chg.alloc _ _
  generalize h2 : u1.alloc (.cells #[Value.int .i64 2] 3) = u2
  have n2 : NB u2 (w.heap.size + 1) [.int .i64 2] 3 := by rw [← h2, ← s1]; exact NB.new u1 _ _
  have s2 : u2.heap.size = w.heap.size + 1 + 1 := by rw [← h2]; simp [s1]
  have c2 : Chg [] u1 u2 := by rw [← h2]; exact Chg.alloc _ _
  generalize hu3 : u2.alloc (.cells #[Value.string ⟨#[104, 116, 109, 108]⟩, Value.string ⟨#[]⟩, Value.slice none 0 0, Value.int .i64 (-1), Value.slice (some ⟨w.heap.size, 0, none⟩) 1 1, Value.string ⟨#[102, 111, 114, 109]⟩, Value.string ⟨#[]⟩, Value.slice none 0 0, Value.int .i64 0, Value.slice (some ⟨w.heap.size + 1, 0, none⟩) 1 1, Value.string ⟨#[105, 110, 112, 117, 116]⟩, Value.string ⟨#[]⟩, Value.slice none 0 0, Value.int .i64 1, Value.slice none 0 0] 45) = u3
  have n3 : NB u3 (w.heap.size + 1 + 1) [Value.string ⟨#[104, 116, 109, 108]⟩, Value.string ⟨#[]⟩, Value.slice none 0 0, Value.int .i64 (-1), Value.slice (some ⟨w.heap.size, 0, none⟩) 1 1, Value.string ⟨#[102, 111, 114, 109]⟩, Value.string ⟨#[]⟩, Value.slice none 0 0, Value.int .i64 0, Value.slice (some ⟨w.heap.size + 1, 0, none⟩) 1 1, Value.string ⟨#[105, 110, 112, 117, 116]⟩, Value.string ⟨#[]⟩, Value.slice none 0 0, Value.int .i64 1, Value.slice none 0 0] 45 := by rw [← hu3, ← s2]; exact NB.new u2 _ _
  have c3 : Chg [] u2 u3 := by rw [← hu3]; exact Chg.alloc _ _
  have m1 : NB u3 w.heap.size [.int .i64 1] 3 := (n1.chg c2 (by simp)).chg c3 (by simp)
  have m2 : NB u3 (w.heap.size + 1) [.int .i64 2] 3 := n2.chg c3 (by simp)
  refine ⟨_, rfl, ⟨_, 3, rfl, .inr ⟨w.heap.size + 1 + 1, 0, rfl, fun i hi => ?_⟩⟩, (c1.trans (c2.trans c3)).none (by simp)⟩
  have hA : AttrsV u3 (.slice none 0 0) [] := ⟨none, 0, rfl, .inl rfl⟩
  have hcap : CapOK (.slice none 0 0) := fun p n c e => by cases e; exact Nat.le_refl _
  match i, hi with
  | 0, _ => exact ⟨_, _, n3.cell 0 rfl, n3.cell 1 rfl, n3.cell 2 rfl, n3.cell 3 rfl, n3.cell 4 rfl, hA, ⟨_, 1, rfl, .inr ⟨_, 0, rfl, fun j hj => by
      match j, hj with
      | 0, _ => exact m1.cell 0 rfl⟩⟩, hcap⟩
  | 1, _ => exact ⟨_, _, n3.cell 5 rfl, n3.cell 6 rfl, n3.cell 7 rfl, n3.cell 8 rfl, n3.cell 9 rfl, hA, ⟨_, 1, rfl, .inr ⟨_, 0, rfl, fun j hj => by
      match j, hj with
      | 0, _ => exact m2.cell 0 rfl⟩⟩, hcap⟩
  | 2, _ => exact ⟨_, _, n3.cell 10 rfl, n3.cell 11 rfl, n3.cell 12 rfl, n3.cell 13 rfl, n3.cell 14 rfl, hA, ⟨none, 0, rfl, .inl rfl⟩, hcap⟩
  | i + 3, hi => exact absurd (show i + 3 < 3 from hi) (by omega)

set_option maxHeartbeats 4000000 in
set_option maxRecDepth 100000 in
theorem wakes_any (w : World) :
    Calls Try.prog 9 #[] w fun e w' => e = .returned (.bool true) ∧ Below w.heap.size w w' := by
  have HS := hide some_any
  have HI := hide (fun v W (hv : NodesV W v someL) => insert_order v someL 2 1 (-1) W hv some_sz (right_is.1 some_right) (by decide) (by decide) (.inr (.inr some_anc)))
  have HR := hide (fun v W (hv : NodesV W v someL) => right_any v someL W hv some_sz)
  have HO := hide (fun v W (hv : NodesV W v someL) => order_any v someL 0 W hv some_sz)
  rw [some_right] at HR
  rw [some_ord] at HO
  go_enter Try.func9, Try.ntmps9
  go_wp2_with fail
  refine (HS.out _).mono ?_
  rintro e w1 ⟨v1, rfl, nv1, b1⟩
  go_wp2_with fail
  refine (HI.out _ _ nv1).mono ?_
  rintro e w2 ⟨rfl, b2⟩
  have B2 := hide (chain b1 b2)
  clear nv1 b1 b2
  go_wp2_with fail
  refine (HS.out _).mono ?_
  rintro e w3 ⟨v3, rfl, nv3, b3⟩
  go_wp2_with fail
  refine (HR.out _ _ nv3).mono ?_
  rintro e w4 ⟨rfl, b4⟩
  have B4 := hide (chain (chain B2.out b3) b4)
  clear nv3 b3 b4
  go_wp2_with fail
  refine (HS.out _).mono ?_
  rintro e w5 ⟨v5, rfl, nv5, b5⟩
  go_wp2_with fail
  refine (HO.out _ _ nv5).mono ?_
  rintro e w6 ⟨v6, rfl, k6, b6⟩
  have B6 := hide (chain (chain B4.out b5) b6)
  have K6 := hide k6
  have N6 := hide ((NB.new w6 [.int .i64 0, .int .i64 1, .int .i64 2] 3))
  have HE := hide (refSameInts_any v6 (.slice (some ⟨w6.heap.size, 0, none⟩) 3 3) [0, 1, 2] [0, 1, 2] (w6.alloc (.cells #[.int .i64 0, .int .i64 1, .int .i64 2] 3)) (k6.ints.below ((Below.refl _ w6).alloc (Nat.le_refl _) _)) ⟨_, 3, rfl, .inr ⟨_, 0, rfl, fun j hj => by
    match j, hj with
    | 0, _ => exact N6.out.cell 0 rfl
    | 1, _ => exact N6.out.cell 1 rfl
    | 2, _ => exact N6.out.cell 2 rfl⟩⟩ (by decide))
  rw [decide_eq_true rfl] at HE
  have BA := hide (chain B6.out ((Below.refl _ w6).alloc (Nat.le_refl _) (.cells #[.int .i64 0, .int .i64 1, .int .i64 2] 3)))
  clear k6 b6 nv5 b5
  go_wp2_with fail
  refine HE.out.mono ?_
  rintro e w7 ⟨rfl, m, hm⟩
  have B7 : Hid (Below w.heap.size w w7) := by rw [hm]; exact bel_drewN BA.out m
  clear hm
  go_wp2_with fail
  go_ret
  exact ⟨rfl, B7.out⟩

end Go.Proofs.Ytkloahpkjbohoaa
