/- A text that is read from the left, escapes as their bytes. The document's Fit, Name, Unname, Type of layer 20. The document's Encode, Split of layer 21. The document's Form and Unform answer by functions of lists of bytes. The document's Encode of layer 19. The program's Encode of layer 19. -/
import Derived.Test.YtmnpnpmopbkabaaDoorJpl10
import Derived.Test.YtmnpnpmopbkabaaDoorJpl11
import Derived.Deep.RegionLaw
import Derived.Lib.SplitLaws
import Derived.Lib.Join

namespace Go.Proofs.YtmnpnpmopbkabaaDoor
open Go.RowKit
theorem drop1 (s : ByteArray) (k : Nat) (h : k < s.size) : s.data.toList.drop k = s[k] :: s.data.toList.drop (k + 1) := by
  rw [List.drop_eq_getElem_cons (by simpa using h)]; rfl
end Go.Proofs.YtmnpnpmopbkabaaDoor

namespace Go.Proofs.YtmnpnpmopbkabaaDoor
open Go.RowKit
set_option maxRecDepth 100000
theorem at_bL {s : ByteArray} {k : Nat} (h : k < s.size) : (bL s)[k]'(by simpa using h) = s[k] := by
  show s.data.toList[k]'(by simpa using h) = s[k]
  simp; rfl
theorem len_bL (s : ByteArray) : (bL s).length = s.size := by simp
theorem all_takeP (f : UInt8 → Bool) (l : List UInt8) {k : Nat} (h : k < l.length) : (l.take (k + 1)).all f = ((l.take k).all f && f l[k]) := by
  rw [List.take_succ_eq_append_getElem h, List.all_append]; simp
theorem any_takeP (f : UInt8 → Bool) (l : List UInt8) {k : Nat} (h : k < l.length) : (l.take (k + 1)).any f = ((l.take k).any f || f l[k]) := by
  rw [List.take_succ_eq_append_getElem h, List.any_append]; simp
theorem ret_txt {s t : ByteArray} (h : s = t) : Ending.returned (.string s) = .returned (.string t) := by rw [h]
set_option maxHeartbeats 4000000 in
theorem refFit_any (b : ByteArray) (w : World) (hs : b.size ≤ 1099511627776) :
    Calls Tryd.prog 40 #[.string b] w fun e w' => e = .returned (.bool (fitL (bL b))) ∧ Below w.heap.size w w' := by
  have LB := hide (len_bL b)
  have E : Hid (fitL (bL b) = ((bL b).all fitC && decide (0 < (bL b).length ∧ (bL b).length ≤ 70))) := rfl
  go_enter Tryd.func40, Tryd.ntmps40
  go_wp2_with fail
  go_loopw [3] (fun iv wr => ∃ k : Nat, k ≤ b.size ∧ iv = .int .i64 k ∧ Hid (((bL b).take k).all fitC = true) ∧ Hid (Below w.heap.size w wr)) (fun iv _ => b.size - (intOf iv).toNat)
  case atStart => exact ⟨0, Nat.zero_le _, rfl, rfl, Below.refl _ _⟩
  case round =>
    rename World => wr
    obtain ⟨k, hk, rfl, HA, BW⟩ := hrel
    by_cases g : k < b.size
    · have k1 : (k : Int) < (b.size : Int) := by omega
      have k0 : (0 : Int) ≤ (k : Int) := by omega
      have hl : k < (bL b).length := by rw [LB.out]; exact g
      have TK := hide (all_takeP fitC (bL b) hl)
      rw [at_bL g, HA.out, Bool.true_and] at TK
      have NO : Hid (fitC b[k] = false → fitL (bL b) = false) := fun t => by
        rw [E.out]
        have : (bL b).all fitC = false := List.all_eq_false.2 ⟨(bL b)[k], List.getElem_mem hl, by rw [at_bL g, t]; decide⟩
        rw [this]; rfl
      have EC : Hid (fitC b[k] = (plainB b[k] || b[k] == 45)) := rfl
      have HP := hide (fun W => refPlain_any b[k] W)
      clear HA E LB
      cases p : plainB b[k] with
      | true =>
        rw [p] at HP EC
        rw [EC.out] at TK
        clear NO EC p
        go_wp2_with fail
        refine (HP.out _).mono ?_
        rintro e w1 ⟨rfl, hu⟩
        obtain rfl : wr = w1 := hu.symm
        go_wp2_with fail
        go_roundw
        case rel => exact ⟨k + 1, by omega, by go_num, TK, BW⟩
        case measure => simp [intOf]; omega
      | false =>
        rw [p] at HP EC
        by_cases q : b[k] = 45
        · have q1 : ((b[k].toNat : Int) != 45) = false := by rw [q]; rfl
          have q2 : (b[k] == 45) = true := by rw [q]; rfl
          rw [EC.out, q2] at TK
          clear NO EC p q q2
          go_wp2_with fail
          refine (HP.out _).mono ?_
          rintro e w1 ⟨rfl, hu⟩
          obtain rfl : wr = w1 := hu.symm
          go_wp2_with fail
          go_roundw
          case rel => exact ⟨k + 1, by omega, by go_num, TK, BW⟩
          case measure => simp [intOf]; omega
        · have q1 : ((b[k].toNat : Int) != 45) = true := by
            rw [bne_iff_ne]
            intro h
            exact q (UInt8.toNat_inj.1 (by show _ = 45; omega))
          have q2 : (b[k] == 45) = false := by rw [beq_eq_false_iff_ne]; exact q
          have RN := hide (NO.out (by rw [EC.out, q2]; rfl))
          clear NO EC p q q2 TK
          go_wp2_with fail
          refine (HP.out _).mono ?_
          rintro e w1 ⟨rfl, hu⟩
          obtain rfl : wr = w1 := hu.symm
          go_wp2_with fail
          go_ret
          exact ⟨ret_bool RN.out.symm, BW.out⟩
    · obtain rfl : k = b.size := by omega
      rw [List.take_of_length_le (by rw [LB.out]; omega)] at HA
      rw [HA.out, Bool.true_and, LB.out] at E
      clear HA LB
      by_cases h0 : 0 < b.size
      · have d0 : decide (0 < (b.size : Int)) = true := decide_eq_true (by omega)
        by_cases h7 : b.size ≤ 70
        · have d1 : decide ((b.size : Int) ≤ 70) = true := decide_eq_true (by omega)
          rw [decide_eq_true ⟨h0, h7⟩] at E
          go_wp2_with fail
          go_ret
          exact ⟨ret_bool E.out.symm, BW.out⟩
        · have d1 : decide ((b.size : Int) ≤ 70) = false := decide_eq_false (by omega)
          rw [decide_eq_false (fun t => h7 t.2)] at E
          go_wp2_with fail
          go_ret
          exact ⟨ret_bool E.out.symm, BW.out⟩
      · have d0 : decide (0 < (b.size : Int)) = false := decide_eq_false (by omega)
        rw [decide_eq_false (fun t => h0 t.1)] at E
        go_wp2_with fail
        go_ret
        exact ⟨ret_bool E.out.symm, BW.out⟩
theorem nam_take (l : List UInt8) {k : Nat} (h : k < l.length) : namL (l.take (k + 1)) = namL (l.take k) ++ nameB l[k] := by
  unfold namL
  rw [List.take_succ_eq_append_getElem h, List.flatMap_append]; simp
theorem nam_len (l : List UInt8) (k : Nat) : (namL (l.take k)).length ≤ 3 * k := by
  unfold namL
  have h1 : ∀ l : List UInt8, (l.flatMap nameB).length ≤ 3 * l.length := by
    intro l
    induction l with
    | nil => simp
    | cons c l ih =>
      have : (nameB c).length ≤ 3 := by unfold nameB; split; simp; split; simp; split; simp; simp
      rw [List.flatMap_cons, List.length_append, List.length_cons]
      omega
  have := h1 (l.take k)
  have h2 := List.length_take_le k l
  omega
theorem byte_is {c : UInt8} {n : Nat} (hn : n < 256) (h : (c.toNat : Int) = n) : c = UInt8.ofNat n := by
  apply UInt8.toNat_inj.1
  rw [UInt8.toNat_ofNat']
  omega
set_option maxHeartbeats 4000000 in
theorem refName_any_PrtR1 (s : ByteArray) (w : World) (hs : s.size ≤ 1099511627776) :
    Calls Tryd.prog 42 #[.string s] w fun e w' => e = .returned (.string (txt (nameL (bL s)))) ∧ Below w.heap.size w w' := by
  have HP := hide (refPairs_any s w hs)
  have ES : Hid (bL (pairsS s) = prsL (bL s)) := rfl
  have zp := pairsS_size s
  generalize pairsS s = t at *
  have EN : Hid (nameL (bL s) = namL (bL t)) := by show _ = _; rw [ES.out]; rfl
  have LB := hide (len_bL t)
  clear ES
  go_enter Tryd.func42, Tryd.ntmps42
  go_wp2_with fail
  refine HP.out.mono ?_
  rintro e w1 ⟨rfl, b1⟩
  go_wp2_with fail
  go_loopw [4, 5] (fun ov iv wr => ∃ k : Nat, k ≤ t.size ∧ iv = .int .i64 k ∧ OwnsB 5 w1.heap.size wr ov (namL ((bL t).take k)) ∧ Hid (Below w1.heap.size w1 wr)) (fun _ iv _ => t.size - (intOf iv).toNat)
  case atStart => exact ⟨0, Nat.zero_le _, rfl, OwnsB.nil _ _ _, Below.refl _ _⟩
  case round =>
    rename World => wr
    obtain ⟨k, hk, rfl, OW, BW⟩ := hrel
    by_cases g : k < t.size
    · have k1 : (k : Int) < (t.size : Int) := by omega
      have k0 : (0 : Int) ≤ (k : Int) := by omega
      have TK := hide (nam_take (bL t) (k := k) (by rw [LB.out]; exact g))
      rw [at_bL g] at TK
      have NL := nam_len (bL t) k
      have sw := BW.out.size
      clear HP EN LB
      by_cases h0 : (t[k].toNat : Int) = 10
      · have q0 : ((t[k].toNat : Int) == 10) = true := by rw [h0]; rfl
        have hc : t[k] = 10 := byte_is (n := 10) (by omega) h0
        rw [show nameB t[k] = (⟨#[37, 48, 65]⟩ : ByteArray).data.toList by rw [hc]; rfl] at TK
        clear hc h0
        go_wp2_with (at_builtin; refine wpList_append_text byteTypesE wr rfl _ _ rfl w1.heap.size _ (namL ((bL t).take k)) ⟨#[37, 48, 65]⟩ rfl OW rfl (by show _ + 3 ≤ _; omega) (by omega) ?_; intro v' w' o' b')
        rw [← TK.out] at o'
        go_roundw
        case rel => exact ⟨k + 1, by omega, by go_num, o', BW.out.trans b'⟩
        case measure => simp [intOf]; omega
      · have n0 := h0
        clear h0
        by_cases h1 : (t[k].toNat : Int) = 13
        · have q0 : ((t[k].toNat : Int) == 10) = false := by rw [beq_eq_false_iff_ne]; exact n0
          have q1 : ((t[k].toNat : Int) == 13) = true := by rw [h1]; rfl
          have hc : t[k] = 13 := byte_is (n := 13) (by omega) h1
          rw [show nameB t[k] = (⟨#[37, 48, 68]⟩ : ByteArray).data.toList by rw [hc]; rfl] at TK
          clear hc h1
          go_wp2_with (at_builtin; refine wpList_append_text byteTypesE wr rfl _ _ rfl w1.heap.size _ (namL ((bL t).take k)) ⟨#[37, 48, 68]⟩ rfl OW rfl (by show _ + 3 ≤ _; omega) (by omega) ?_; intro v' w' o' b')
          rw [← TK.out] at o'
          go_roundw
          case rel => exact ⟨k + 1, by omega, by go_num, o', BW.out.trans b'⟩
          case measure => simp [intOf]; omega
        · have n1 := h1
          clear h1
          by_cases h2 : (t[k].toNat : Int) = 34
          · have q0 : ((t[k].toNat : Int) == 10) = false := by rw [beq_eq_false_iff_ne]; exact n0
            have q1 : ((t[k].toNat : Int) == 13) = false := by rw [beq_eq_false_iff_ne]; exact n1
            have q2 : ((t[k].toNat : Int) == 34) = true := by rw [h2]; rfl
            have hc : t[k] = 34 := byte_is (n := 34) (by omega) h2
            rw [show nameB t[k] = (⟨#[37, 50, 50]⟩ : ByteArray).data.toList by rw [hc]; rfl] at TK
            clear hc h2
            go_wp2_with (at_builtin; refine wpList_append_text byteTypesE wr rfl _ _ rfl w1.heap.size _ (namL ((bL t).take k)) ⟨#[37, 50, 50]⟩ rfl OW rfl (by show _ + 3 ≤ _; omega) (by omega) ?_; intro v' w' o' b')
            rw [← TK.out] at o'
            go_roundw
            case rel => exact ⟨k + 1, by omega, by go_num, o', BW.out.trans b'⟩
            case measure => simp [intOf]; omega
          · have n2 := h2
            clear h2
            have q0 : ((t[k].toNat : Int) == 10) = false := by rw [beq_eq_false_iff_ne]; exact n0
            have q1 : ((t[k].toNat : Int) == 13) = false := by rw [beq_eq_false_iff_ne]; exact n1
            have q2 : ((t[k].toNat : Int) == 34) = false := by rw [beq_eq_false_iff_ne]; exact n2
            have hc : nameB t[k] = [t[k]] := by
              unfold nameB
              rw [if_neg (fun e => n0 (by rw [e]; rfl)), if_neg (fun e => n1 (by rw [e]; rfl)), if_neg (fun e => n2 (by rw [e]; rfl))]
            rw [hc] at TK
            clear hc
            go_wp2_with (at_builtin; refine wpList_append_byte byteTypesE wr _ rfl _ _ rfl w1.heap.size _ (namL ((bL t).take k)) t[k] rfl rfl OW rfl (by omega) (by omega) ?_; intro v' w' o' b')
            rw [← TK.out] at o'
            go_roundw
            case rel => exact ⟨k + 1, by omega, by go_num, o', BW.out.trans b'⟩
            case measure => simp [intOf]; omega
    · obtain rfl : k = t.size := by omega
      rw [List.take_of_length_le (by rw [LB.out]; omega)] at OW
      have hend := OW.text byteTypesE
      rw [← EN.out] at hend
      clear HP EN LB
      go_wp2_with fail
      go_ret
      exact ⟨rfl, chain b1 BW.out⟩
set_option maxHeartbeats 4000000 in
theorem refTypeP_any (s : ByteArray) (w : World) (hs : s.size ≤ 1099511627776) :
    Calls Tryd.prog 43 #[.string s] w fun e w' => e = .returned (.string (txt (typeL (bL s)))) ∧ w' = w := by
  have LB := hide (len_bL s)
  have EB : Hid ((bL s).any badT = true ∨ bL s = [] → txt (typeL (bL s)) = ⟨#[97, 112, 112, 108, 105, 99, 97, 116, 105, 111, 110, 47, 111, 99, 116, 101, 116, 45, 115, 116, 114, 101, 97, 109]⟩) := fun h => by unfold typeL; rw [if_pos h]; rfl
  have EG : Hid (¬ ((bL s).any badT = true ∨ bL s = []) → txt (typeL (bL s)) = s) := fun h => by unfold typeL; rw [if_neg h]; rfl
  go_enter Tryd.func43, Tryd.ntmps43
  go_wp2_with fail
  go_loop [3] (fun iv => ∃ k : Nat, k ≤ s.size ∧ iv = .int .i64 k ∧ Hid (((bL s).take k).any badT = false)) (fun iv => s.size - (intOf iv).toNat)
  case atStart => exact ⟨0, Nat.zero_le _, rfl, rfl⟩
  case round =>
    obtain ⟨k, hk, rfl, HA⟩ := hrel
    by_cases g : k < s.size
    · have k1 : (k : Int) < (s.size : Int) := by omega
      have k0 : (0 : Int) ≤ (k : Int) := by omega
      have hl : k < (bL s).length := by rw [LB.out]; exact g
      have TK := hide (any_takeP badT (bL s) hl)
      rw [at_bL g, HA.out, Bool.false_or] at TK
      have YES : Hid (badT s[k] = true → txt (typeL (bL s)) = ⟨#[97, 112, 112, 108, 105, 99, 97, 116, 105, 111, 110, 47, 111, 99, 116, 101, 116, 45, 115, 116, 114, 101, 97, 109]⟩) := fun t => EB.out (.inl (List.any_eq_true.2 ⟨(bL s)[k], List.getElem_mem hl, by rw [at_bL g]; exact t⟩))
      have EC : Hid (badT s[k] = decide (s[k].toNat < 32 ∨ 126 < s[k].toNat)) := rfl
      clear HA EB EG LB
      by_cases h0 : s[k].toNat < 32
      · have d0 : decide ((s[k].toNat : Int) < 32) = true := decide_eq_true (by omega)
        have R1 := hide (YES.out (by rw [EC.out]; exact decide_eq_true (.inl h0)))
        clear YES EC TK h0
        go_wp2_with fail
        go_ret
        exact ⟨ret_txt R1.out.symm, rfl⟩
      · have d0 : decide ((s[k].toNat : Int) < 32) = false := decide_eq_false (by omega)
        by_cases h1 : 126 < s[k].toNat
        · have d1 : decide (126 < (s[k].toNat : Int)) = true := decide_eq_true (by omega)
          have R1 := hide (YES.out (by rw [EC.out]; exact decide_eq_true (.inr h1)))
          clear YES EC TK h0 h1
          go_wp2_with fail
          go_ret
          exact ⟨ret_txt R1.out.symm, rfl⟩
        · have d1 : decide (126 < (s[k].toNat : Int)) = false := decide_eq_false (by omega)
          rw [EC.out, decide_eq_false (fun t => t.elim h0 h1)] at TK
          clear YES EC h0 h1
          go_wp2_with fail
          go_round
          case rel => exact ⟨k + 1, by omega, by go_num, TK⟩
          case measure => simp [intOf]; omega
    · obtain rfl : k = s.size := by omega
      rw [List.take_of_length_le (by rw [LB.out]; omega)] at HA
      by_cases h0 : s.size = 0
      · have q : ((s.size : Int) == 0) = true := by rw [h0]; rfl
        have R1 := hide (EB.out (.inr (List.eq_nil_of_length_eq_zero (by rw [LB.out]; exact h0))))
        clear EB EG HA LB h0
        go_wp2_with fail
        go_ret
        exact ⟨ret_txt R1.out.symm, rfl⟩
      · have q : ((s.size : Int) == 0) = false := by rw [beq_eq_false_iff_ne]; omega
        have R1 := hide (EG.out (fun t => by
          rcases t with t | t
          · rw [HA.out] at t; cases t
          · exact h0 (by rw [← LB.out, t]; rfl)))
        clear EB EG HA LB h0
        go_wp2_with fail
        go_ret
        exact ⟨ret_txt R1.out.symm, rfl⟩
end Go.Proofs.YtmnpnpmopbkabaaDoor

namespace Go.Proofs.YtmnpnpmopbkabaaDoor
open Go.RowKit
set_option maxRecDepth 100000
theorem wpList_append_two {P : Program} {t e st : TypeId} (bt : ByteTypes P t e st) {ops : Array Oper} {rest : List Oper} {o : Oper} {a : Act} {Q : Exit → Act → World → Prop} (w : World) (y z : Int)
    (hgd : o.guard = none) (s x : Operand) (ho : o.op = .call { callee := .builtin .append, args := #[s, x], argTypes := #[t, t] })
    (base : Nat) (v : Value) (l : List UInt8) (c d : UInt8) (hy : y = (c.toNat : Int)) (hz : z = (d.toNat : Int)) (hs : a.eval s = v) (hown : OwnsB e base w v l)
    (hx : a.eval x = .slice (some ⟨w.heap.size, 0, none⟩) 2 2) (hlen : l.length ≤ 70368744177664) (hbase : base ≤ w.heap.size)
    (h : ∀ v' w', OwnsB e base w' v' (l ++ [c, d]) → Below base w w' → wpList P ops Q rest (a.put o.dst v') w') : wpList P ops Q (o :: rest) a (w.alloc (.cells #[.int .u8 y, .int .u8 z] e)) := by
  subst hy hz
  obtain ⟨i, hi, hz0, hz1, hz2⟩ := info_parts bt.info
  have hown' : (w.alloc (.cells #[.int .u8 (c.toNat : Int), .int .u8 (d.toNat : Int)] e)).ownsRow base e 1 v l.length (l.map cellB) := World.ownsRow.alloc hown _
  refine wpList_append_own (P := P) _ hgd s x t ho base e i (.int .u8 0) 1 1 bt.sl hi hz0 hz1 hz2 rfl (by decide) v l.length (l.map cellB) hs hown' ⟨w.heap.size, 0, none⟩ 2 2 [cellB c, cellB d] hx rfl (cell_two_new _ _ _ _) (fun u hu => by simp at hu; rcases hu with rfl | rfl <;> rfl) (by unfold maxLen; omega) (by omega) (by simp; omega) ?_
  intro v' w' h1 h2 _
  refine h v' w' ?_ (((Below.refl base w).alloc hbase _).trans (grown_below hown' h2 (by simp; omega)))
  simpa [OwnsB] using h1
/-- .. as one step of a statement that draws its order. -/
def enN (p : List En) (k : Nat) : List UInt8 := (p.take k).flatMap fun e => plnL e ++ [13, 10]
theorem enN_next {p : List En} {k : Nat} (h : k < p.length) : enN p (k + 1) = (((enN p k ++ bL p[k].name) ++ [61]) ++ bL p[k].val) ++ [13, 10] := by
  unfold enN
  rw [List.take_succ_eq_append_getElem h, List.flatMap_append]
  show _ ++ (plnL p[k] ++ [13, 10] ++ []) = _
  unfold plnL
  simp
theorem enN_len {p : List En} {m : Nat} (hp : ∀ e ∈ p, e.name.size ≤ m ∧ e.val.size ≤ m) (hl : p.length ≤ 200) (k : Nat) : (enN p k).length ≤ 200 * (2 * m + 3) := by
  have A : ∀ q : List En, (∀ e ∈ q, e.name.size ≤ m ∧ e.val.size ≤ m) → (q.flatMap fun e => plnL e ++ [13, 10]).length ≤ q.length * (2 * m + 3) := by
    intro q
    induction q with
    | nil => intro _; simp
    | cons e q ih =>
      intro hq
      have i1 := ih (fun x hx => hq x (List.mem_cons_of_mem _ hx))
      have i2 := hq e List.mem_cons_self
      have i3 := pln_len e
      have i4 : (e :: q).length * (2 * m + 3) = q.length * (2 * m + 3) + 1 * (2 * m + 3) := Nat.add_mul _ _ _
      rw [List.flatMap_cons, List.length_append, List.length_append, i3, i4]
      show _ + 2 + _ ≤ _
      omega
  have h1 := A (p.take k) (fun e he => hp e (List.mem_of_mem_take he))
  have h2 : (p.take k).length ≤ 200 := by rw [List.length_take]; omega
  exact Nat.le_trans h1 (Nat.mul_le_mul_right _ h2)
theorem plain_sizesN {l : List En} {n : Nat} (h : EnsOK n l) : ∀ e ∈ plainU l, e.name.size ≤ 2 * n ∧ e.val.size ≤ 2 * n := by
  intro e he
  obtain ⟨x, hx, rfl⟩ := List.mem_map.1 he
  exact pl_size (h.ent x hx)
set_option maxHeartbeats 8000000 in
theorem refEncode21_any (n : Nat) (v : Value) (l : List En) (w : World) (hv : FilesV w v l) (hn : n ≤ 1000000) (hl : EnsOK n l) :
    Calls Tryd.prog 14 #[v] w fun e w' => e = .returned (.string (txt (encN l))) ∧ Below w.heap.size w w' := by
  have HP := hide (refPlain19_any n v l w hv (by omega) hl)
  have PS := hide (plain_sizesN hl)
  have PN : Hid ((plainU l).length ≤ 200) := by show _ ≤ _; unfold plainU; rw [List.length_map]; exact hl.len
  have PT := hide (fun k => enN_len PS.out PN.out k)
  have EE : Hid (txt (enN (plainU l) (plainU l).length) = txt (encN l)) := by show _ = _; unfold enN; rw [List.take_length]; rfl
  obtain ⟨pl, cl, rfl⟩ : ∃ p c, v = .slice p l.length c := by obtain ⟨p, c, e, _⟩ := hv; exact ⟨p, c, e⟩
  have p200 := PN.out
  generalize plainU l = p at *
  generalize txt (encN l) = RES at *
  clear hv hl PN
  go_enter Tryd.func14, Tryd.ntmps14
  go_wp2_with fail
  refine HP.out.mono ?_
  rintro e wp ⟨vp, rfl, op, bp⟩
  have PF := hide op.files
  obtain ⟨q, cq, rfl⟩ := op.form
  have BP := hide bp
  clear op bp HP
  go_wp2_with fail
  go_loopw [3, 5] (fun ov iv wr => ∃ k : Nat, k ≤ p.length ∧ iv = .int .i64 k ∧ OwnsB 5 wp.heap.size wr ov (enN p k) ∧ Hid (Below wp.heap.size wp wr)) (fun _ iv _ => p.length - (intOf iv).toNat)
  case atStart => exact ⟨0, Nat.zero_le _, rfl, OwnsB.nil _ _ _, Below.refl _ _⟩
  case round =>
    rename World => wr
    obtain ⟨k, hk, rfl, OW, BW⟩ := hrel
    by_cases g : k < p.length
    · have k1 : (k : Int) < (p.length : Int) := by omega
      have k0 : (0 : Int) ≤ (k : Int) := by omega
      obtain ⟨q', c', eq, hq⟩ := PF.out
      cases eq
      obtain ⟨b, o, rfl, hc⟩ : ∃ b o, q = some ⟨b, o, none⟩ ∧ ∀ i (h : i < p.length), EnAt wp b (o + i * 5) p[i] := by
        rcases hq with t | t
        · rw [t] at g; simp at g
        · exact t
      have EA := hide (hc k g)
      have sz := PS.out _ (List.getElem_mem g)
      have L0 := PT.out k
      have EX := hide (enN_next g)
      have sw := BW.out.size
      obtain ⟨sz0, sz1⟩ := sz
      clear hc hq PS PT PF EE
      generalize enN p k = C at *
      generalize p[k] = ek at *
      have a0 := (EA.out.below BW.out).c0
      go_wp2_with (first
        | (at_builtin; refine wpList_append_text byteTypesE wr rfl _ _ rfl wp.heap.size _ C ek.name rfl OW rfl (by omega) (by omega) ?_; intro v2 w2 o2 b2; have W2 : Hid (Below wp.heap.size wp w2) := BW.out.trans b2; have m2 := W2.out.size)
        | (at_builtin; refine wpList_append_byte byteTypesE w2 _ rfl _ _ rfl wp.heap.size _ (C ++ bL ek.name) (61 : UInt8) rfl rfl o2 rfl (by simp only [List.length_append, len_bL]; omega) (by omega) ?_; intro v3 w3 o3 b3; have W3 : Hid (Below wp.heap.size wp w3) := W2.out.trans b3; have m3 := W3.out.size; have a1 := (EA.out.below W3.out).c1)
        | (at_builtin; refine wpList_append_text byteTypesE w3 rfl _ _ rfl wp.heap.size _ ((C ++ bL ek.name) ++ [61]) ek.val rfl o3 rfl (by simp only [List.length_append, List.length_cons, List.length_nil, len_bL]; omega) (by omega) ?_; intro v4 w4 o4 b4; have W4 : Hid (Below wp.heap.size wp w4) := W3.out.trans b4; have m4 := W4.out.size)
        | (at_builtin; refine wpList_append_two byteTypesE w4 _ _ rfl _ _ rfl wp.heap.size _ (((C ++ bL ek.name) ++ [61]) ++ bL ek.val) (13 : UInt8) (10 : UInt8) rfl rfl rfl o4 rfl (by simp only [List.length_append, List.length_cons, List.length_nil, len_bL]; omega) (by omega) ?_; intro v5 w5 o5 b5))
      have W5 : Hid (Below wp.heap.size wp w5) := W4.out.trans b5
      rw [← EX.out] at o5
      go_roundw
      case rel => exact ⟨k + 1, by omega, by go_num, o5, W5⟩
      case measure => simp [intOf]; omega
    · obtain rfl : k = p.length := by omega
      have hend := OW.text byteTypesE
      rw [EE.out] at hend
      clear PF PS PT EE
      go_wp2_with fail
      go_ret
      exact ⟨rfl, chain BP.out BW.out⟩
end Go.Proofs.YtmnpnpmopbkabaaDoor

namespace Go.Proofs.YtmnpnpmopbkabaaDoor
open Go.RowKit
theorem formL_take (s : ByteArray) (k : Nat) (h : k < s.size) : formL (s.data.toList.take (k + 1)) = formL (s.data.toList.take k) ++ formB s[k] := by
  rw [byteAt_take s k h, formL_append, ← byteAt_eq s k h]
  show _ ++ (formB s[k] ++ []) = _
  rw [List.append_nil]
theorem formL_take_len (s : ByteArray) (k : Nat) : (formL (s.data.toList.take k)).length ≤ 3 * k := by
  have := formL_len (s.data.toList.take k)
  have := List.length_take_le k s.data.toList
  omega
theorem one_list (s : ByteArray) (k : Nat) (h : k < s.size) : (s.extract k (k + 1)).data.toList = [s[k]] := by
  have : (s.extract k (k + 1)).data.toList = (s.data.toList.drop k).take (k + 1 - k) := by simp
  rw [this, drop1 s k h, Nat.add_sub_cancel_left]; rfl
theorem enc_one (set : Int) (s : ByteArray) (k : Nat) (h : k < s.size) : encS set (s.extract k (k + 1)) = txt (encB set s[k]) := by
  unfold encS; rw [one_list s k h]
  show txt (encB set s[k] ++ []) = _
  rw [List.append_nil]
theorem one_size (s : ByteArray) (k : Nat) (h : k < s.size) : (s.extract k (k + 1)).size = 1 := by
  rw [ByteArray.size_extract]; omega
set_option maxHeartbeats 400000 in
theorem refForm_any_RefFormWalks (s : ByteArray) (w : World) (hs : s.size ≤ 1099511627776) :
    Calls Tryd.prog 24 #[.string s] w fun r w' => r = .returned (.string (formS s)) ∧ Below w.heap.size w w' := by
  go_enter Tryd.func24, Tryd.ntmps24
  go_wp2_with fail
  go_loopw [3, 4] (fun v i wr => ∃ k : Nat, k ≤ s.size ∧ i = .int .i64 k ∧ OwnsB 5 w.heap.size wr v (formL (s.data.toList.take k)) ∧ Below w.heap.size w wr) (fun _ i _ => s.size - (intOf i).toNat)
  case atStart => exact ⟨0, Nat.zero_le _, rfl, OwnsB.nil _ _ _, Below.refl _ _⟩
  case round =>
    obtain ⟨k, hk, rfl, hown, hb⟩ := hrel
    by_cases hlt : k < s.size
    · have hle := formL_take_len s k
      have HT := hide (formL_take s k hlt)
      have hsz := hb.size
      have hz := one_size s k hlt
      have hE := fun w => refEncode_any (s.extract k (k + 1)) 7 w (by decide) (by omega)
      rw [enc_one 7 s k hlt] at hE
      have HE := hide hE
      have hi1 : (k : Int) + 1 ≤ (s.size : Int) := by omega
      have hl3 := encB_len 7 s[k]
      clear hE hz
      by_cases h32 : (s[k].toNat : Int) = 32
      · have q : ((s[k].toNat : Int) == 32) = true := by simpa using h32
        have h0 : s[k] = 32 := UInt8.toNat_inj.1 (by show _ = 32; omega)
        have HG : Hid (formB s[k] = [43]) := by rw [h0]; rfl
        clear h32 h0
        go_wp2_with fail
        refine (HE.out _).mono ?_
        rintro e w1 ⟨rfl, b1⟩
        have hown1 := hown.below b1
        have hsz1 := b1.size
        go_wp2_with (at_builtin; refine wpList_append_text byteTypes w1 rfl _ _ rfl w.heap.size _ _ (⟨#[43]⟩ : ByteArray) rfl hown1 rfl (by show _ + 1 ≤ _; omega) (by omega) ?_; intro v2 w2 hown2 hb2)
        go_roundw
        case rel => exact ⟨k + 1, by omega, by go_num, by rw [HT.out, HG.out]; exact hown2, (hb.trans (b1.mono (by omega))).trans hb2⟩
        case measure => simp [intOf]; omega
      · have q : ((s[k].toNat : Int) == 32) = false := by simpa using h32
        have HG : Hid (formB s[k] = encB 7 s[k]) := by unfold formB; rw [if_neg (fun e => h32 (by rw [e]; rfl))]; exact rfl
        clear h32
        go_wp2_with fail
        refine (HE.out _).mono ?_
        rintro e w1 ⟨rfl, b1⟩
        have hown1 := hown.below b1
        have hsz1 := b1.size
        go_wp2_with (at_builtin; refine wpList_append_text byteTypes w1 rfl _ _ rfl w.heap.size _ _ (txt (encB 7 s[k])) rfl hown1 rfl (by rw [txt_size]; omega) (by omega) ?_; intro v2 w2 hown2 hb2)
        go_roundw
        case rel => exact ⟨k + 1, by omega, by go_num, by rw [HT.out, HG.out]; exact hown2, (hb.trans (b1.mono (by omega))).trans hb2⟩
        case measure => simp [intOf]; omega
    · have e : k = s.size := by omega
      subst e
      have ht : s.data.toList.take s.size = s.data.toList := List.take_of_length_le (by simp)
      rw [ht] at hown
      have hend := hown.text byteTypes
      go_wp2
      go_ret
      exact ⟨rfl, hb⟩
end Go.Proofs.YtmnpnpmopbkabaaDoor

namespace Go.Proofs.YtmnpnpmopbkabaaDoor
open Go.RowKit
set_option maxRecDepth 100000
/-- What is told of the first k entries. -/
def encT (p : List En) (k : Nat) : List UInt8 := joinL 38 ((p.take k).map encE)
theorem encT_first {p : List En} (h : 0 < p.length) : encT p 1 = (([] ++ formL p[0].name.data.toList) ++ [(61 : UInt8)]) ++ formL p[0].val.data.toList := by
  unfold encT
  rw [List.take_succ_eq_append_getElem h]
  show encE p[0] = _
  unfold encE
  simp
theorem encT_next {p : List En} {k : Nat} (h : k < p.length) (h0 : 0 < k) : encT p (k + 1) = (((encT p k ++ [(38 : UInt8)]) ++ formL p[k].name.data.toList) ++ [(61 : UInt8)]) ++ formL p[k].val.data.toList := by
  unfold encT
  rw [List.take_succ_eq_append_getElem h, List.map_append]
  show joinL 38 (_ ++ [encE p[k]]) = _
  rw [join_snoc _ _ _ (by
    intro t
    have := congrArg List.length t
    rw [List.length_map, List.length_take, List.length_nil] at this
    omega)]
  unfold encE
  simp
theorem encT_len {p : List En} {m : Nat} (hp : ∀ e ∈ p, e.name.size ≤ m ∧ e.val.size ≤ m) (hl : p.length ≤ 200) (k : Nat) : (encT p k).length ≤ 200 * (6 * m + 1) + 200 := by
  unfold encT
  refine Nat.le_trans (join_len _ _) ?_
  have h1 : (((p.take k).map encE).map List.length).sum ≤ (p.take k).length * (6 * m + 1) := by
    rw [List.map_map]
    refine sum_le _ _ _ (fun e he => ?_)
    have q := encE_len e
    have := hp e (List.mem_of_mem_take he)
    show (encE e).length ≤ _
    omega
  have h2 : ((p.take k).map encE).length = (p.take k).length := by simp
  have h3 : (p.take k).length ≤ 200 := by rw [List.length_take]; omega
  have h4 : (p.take k).length * (6 * m + 1) ≤ 200 * (6 * m + 1) := Nat.mul_le_mul_right _ h3
  omega
theorem formS_len (s : ByteArray) : (formS s).size ≤ 3 * s.size := by
  have := formL_len s.data.toList
  have e : (formS s).size = (formL s.data.toList).length := rfl
  rw [e]
  simpa using this
theorem plain_sizes {l : List En} {n : Nat} (h : EnsOK n l) : ∀ e ∈ plainU l, e.name.size ≤ 2 * n ∧ e.val.size ≤ 2 * n := by
  intro e he
  obtain ⟨x, hx, rfl⟩ := List.mem_map.1 he
  exact pl_size (h.ent x hx)
set_option maxHeartbeats 8000000 in
theorem refEncode19_any (n : Nat) (v : Value) (l : List En) (w : World) (hv : FilesV w v l) (hn : n ≤ 1000000) (hl : EnsOK n l) :
    Calls Tryd.prog 12 #[v] w fun e w' => e = .returned (.string (urlS l)) ∧ Below w.heap.size w w' := by
  have HP := hide (refPlain19_any n v l w hv (by omega) hl)
  have PS := hide (plain_sizes hl)
  have PN : Hid ((plainU l).length ≤ 200) := by show _ ≤ _; unfold plainU; rw [List.length_map]; exact hl.len
  have PT := hide (fun k => encT_len PS.out PN.out k)
  have EE : Hid (txt (encT (plainU l) (plainU l).length) = urlS l) := by show _ = _; unfold encT; rw [List.take_length]; rfl
  obtain ⟨pl, cl, rfl⟩ : ∃ p c, v = .slice p l.length c := by obtain ⟨p, c, e, _⟩ := hv; exact ⟨p, c, e⟩
  have p200 := PN.out
  generalize plainU l = p at *
  generalize urlS l = RES at *
  clear hv hl PN
  go_enter Tryd.func12, Tryd.ntmps12
  go_wp2_with fail
  refine HP.out.mono ?_
  rintro e wp ⟨vp, rfl, op, bp⟩
  have PF := hide op.files
  obtain ⟨q, cq, rfl⟩ := op.form
  have BP := hide bp
  clear op bp HP
  go_wp2_with fail
  go_loopw [3, 5] (fun ov iv wr => ∃ k : Nat, k ≤ p.length ∧ iv = .int .i64 k ∧ OwnsB 5 wp.heap.size wr ov (encT p k) ∧ Hid (Below wp.heap.size wp wr)) (fun _ iv _ => p.length - (intOf iv).toNat)
  case atStart => exact ⟨0, Nat.zero_le _, rfl, OwnsB.nil _ _ _, Below.refl _ _⟩
  case round =>
    rename World => wr
    obtain ⟨k, hk, rfl, OW, BW⟩ := hrel
    by_cases g : k < p.length
    · have k1 : (k : Int) < (p.length : Int) := by omega
      have k0 : (0 : Int) ≤ (k : Int) := by omega
      obtain ⟨q', c', eq, hq⟩ := PF.out
      cases eq
      obtain ⟨b, o, rfl, hc⟩ : ∃ b o, q = some ⟨b, o, none⟩ ∧ ∀ i (h : i < p.length), EnAt wp b (o + i * 5) p[i] := by
        rcases hq with t | t
        · rw [t] at g; simp at g
        · exact t
      have EA := hide (hc k g)
      have sz := PS.out _ (List.getElem_mem g)
      have L0 := PT.out k
      have s0 := formS_len p[k].name
      have s1 := formS_len p[k].val
      have H0 := hide (fun W => refForm_any_RefFormWalks p[k].name W (by omega))
      have H1 := hide (fun W => refForm_any_RefFormWalks p[k].val W (by omega))
      have sw := BW.out.size
      by_cases kz : k = 0
      · have EX : Hid (encT p (k + 1) = (([] ++ (formS p[k].name).data.toList) ++ [(61 : UInt8)]) ++ (formS p[k].val).data.toList) := by
          show _ = _
          subst kz
          exact encT_first g
        have OE : encT p k = [] := by rw [kz]; rfl
        rw [OE] at OW
        have d0 : decide (0 < (k : Int)) = false := decide_eq_false (by omega)
        have d1 : ¬ 0 < k := by omega
        clear hc hq PS PT PF EE L0 kz OE
        obtain ⟨sz0, sz1⟩ := sz
        generalize formS p[k].name = f0 at *
        generalize formS p[k].val = f1 at *
        have sf0 : f0.size ≤ 6000000 := by omega
        have sf1 : f1.size ≤ 6000000 := by omega
        clear s0 s1 sz0 sz1
        have WA := hide BW.out
        have oz := OW
        have a0 := (EA.out.below WA.out).c0
        go_wp2_with fail
        refine (H0.out _).mono ?_
        rintro e w2 ⟨rfl, b2⟩
        have o2 := OwnsB.below oz b2
        have W2 := hide (chain WA.out b2)
        have m2 := W2.out.size
        clear b2 H0
        go_wp2_with (first | (at_builtin; refine wpList_append_text byteTypes w2 rfl _ _ rfl wp.heap.size _ [] f0 rfl o2 rfl (by simp only [List.length_nil]; omega) (by omega) ?_; intro v3 w3 o3 b3; have W3 : Hid (Below wp.heap.size wp w3) := W2.out.trans b3; have m3 := W3.out.size) | (at_builtin; refine wpList_append_byte byteTypes w3 _ rfl _ _ rfl wp.heap.size _ ([] ++ f0.data.toList) (61 : UInt8) rfl rfl o3 rfl (by simp only [List.length_append, List.length_nil, Array.length_toList, ByteArray.size_data]; omega) (by omega) ?_; intro v4 w4 o4 b4; have W4 : Hid (Below wp.heap.size wp w4) := W3.out.trans b4; have a1 := (EA.out.below W4.out).c1))
        refine (H1.out _).mono ?_
        rintro e w5 ⟨rfl, b5⟩
        have o5 := OwnsB.below o4 b5
        have W5 := hide (chain W4.out b5)
        have m5 := W5.out.size
        clear b5 H1
        go_wp2_with (at_builtin; refine wpList_append_text byteTypes w5 rfl _ _ rfl wp.heap.size _ (([] ++ f0.data.toList) ++ [61]) f1 rfl o5 rfl (by simp only [List.length_append, List.length_cons, List.length_nil, Array.length_toList, ByteArray.size_data]; omega) (by omega) ?_; intro v6 w6 o6 b6)
        have W6 : Hid (Below wp.heap.size wp w6) := W5.out.trans b6
        rw [← EX.out] at o6
        go_roundw
        case rel => exact ⟨k + 1, by omega, by go_num, o6, W6⟩
        case measure => simp [intOf]; omega
      · have EX : Hid (encT p (k + 1) = (((encT p k ++ [(38 : UInt8)]) ++ (formS p[k].name).data.toList) ++ [(61 : UInt8)]) ++ (formS p[k].val).data.toList) := encT_next g (by omega)
        clear hc hq PS PT PF EE
        obtain ⟨sz0, sz1⟩ := sz
        generalize encT p k = C at *
        generalize formS p[k].name = f0 at *
        generalize formS p[k].val = f1 at *
        have sf0 : f0.size ≤ 6000000 := by omega
        have sf1 : f1.size ≤ 6000000 := by omega
        have LC : C.length ≤ 4000000000 := by omega
        clear s0 s1 sz0 sz1 L0
        have d0 : decide (0 < (k : Int)) = true := decide_eq_true (by omega)
        have a0 := (EA.out.below BW.out).c0
        have sw := BW.out.size
        go_wp2_with (at_builtin; refine wpList_append_byte byteTypes wr _ rfl _ _ rfl wp.heap.size _ C (38 : UInt8) rfl rfl OW rfl (by omega) (by omega) ?_; intro vz wz oz bz; have WA : Hid (Below wp.heap.size wp wz) := BW.out.trans bz; have a0z := (EA.out.below WA.out).c0)
        refine (H0.out _).mono ?_
        rintro e w2 ⟨rfl, b2⟩
        have o2 := OwnsB.below oz b2
        have W2 := hide (chain WA.out b2)
        have m2 := W2.out.size
        clear b2 H0
        go_wp2_with (first | (at_builtin; refine wpList_append_text byteTypes w2 rfl _ _ rfl wp.heap.size _ (C ++ [38]) f0 rfl o2 rfl (by simp only [List.length_append, List.length_cons, List.length_nil]; omega) (by omega) ?_; intro v3 w3 o3 b3; have W3 : Hid (Below wp.heap.size wp w3) := W2.out.trans b3; have m3 := W3.out.size) | (at_builtin; refine wpList_append_byte byteTypes w3 _ rfl _ _ rfl wp.heap.size _ ((C ++ [38]) ++ f0.data.toList) (61 : UInt8) rfl rfl o3 rfl (by simp only [List.length_append, List.length_cons, List.length_nil, Array.length_toList, ByteArray.size_data]; omega) (by omega) ?_; intro v4 w4 o4 b4; have W4 : Hid (Below wp.heap.size wp w4) := W3.out.trans b4; have a1 := (EA.out.below W4.out).c1))
        refine (H1.out _).mono ?_
        rintro e w5 ⟨rfl, b5⟩
        have o5 := OwnsB.below o4 b5
        have W5 := hide (chain W4.out b5)
        have m5 := W5.out.size
        clear b5 H1
        go_wp2_with (at_builtin; refine wpList_append_text byteTypes w5 rfl _ _ rfl wp.heap.size _ (((C ++ [38]) ++ f0.data.toList) ++ [61]) f1 rfl o5 rfl (by simp only [List.length_append, List.length_cons, List.length_nil, Array.length_toList, ByteArray.size_data]; omega) (by omega) ?_; intro v6 w6 o6 b6)
        have W6 : Hid (Below wp.heap.size wp w6) := W5.out.trans b6
        rw [← EX.out] at o6
        go_roundw
        case rel => exact ⟨k + 1, by omega, by go_num, o6, W6⟩
        case measure => simp [intOf]; omega
    · obtain rfl : k = p.length := by omega
      have hend := OW.text byteTypes
      rw [EE.out] at hend
      clear PF PS PT EE
      go_wp2_with fail
      go_ret
      exact ⟨rfl, chain BP.out BW.out⟩
end Go.Proofs.YtmnpnpmopbkabaaDoor

namespace Go.Proofs.YtmnpnpmopbkabaaDoor
open Go.RowKit
set_option maxRecDepth 100000
/-- The tables that layer 19's road names. -/
def UrTabs (w : World) : Prop := Signs w ∧ Digs w ∧ SomeMax w
theorem UrTabs.below {w w' : World} (h : UrTabs w) (hb : Below w.heap.size w w') : UrTabs w' := ⟨h.1.below hb, h.2.1.below hb, h.2.2.below hb⟩
theorem UrTabs.under {B : Nat} {w w' : World} (h : UrTabs w) (hb : Below B w w') (hB : 1 < B ∧ 2 < B ∧ 3 < B) : UrTabs w' :=
  ⟨fun k hk => (hb.cell hB.1).trans (h.1 k hk), h.2.1.under hb hB.2.1, by obtain ⟨m, hm⟩ := h.2.2; exact ⟨m, (hb.cell hB.2.2).trans hm⟩⟩
theorem UrTabs.lt {w : World} (h : UrTabs w) : 1 < w.heap.size ∧ 2 < w.heap.size ∧ 3 < w.heap.size :=
  ⟨World.block_lt_of_cell? _ _ (h.1 0 (by decide)), World.block_lt_of_cell? _ _ (h.2.1 0 (by decide)), by obtain ⟨m, hm⟩ := h.2.2; exact World.block_lt_of_cell? _ _ hm⟩
/-- The tables, in a world that keeps what lies below B, where they lie. -/
structure TabsU (B : Nat) (w : World) : Prop where
  tabs : UrTabs w
  low : 1 < B ∧ 2 < B ∧ 3 < B
theorem TabsU.of {w : World} (h : UrTabs w) : TabsU w.heap.size w := ⟨h, h.lt⟩
theorem TabsU.under {B : Nat} {w w' : World} (h : TabsU B w) (hb : Below B w w') : TabsU B w' := ⟨h.tabs.under hb h.low, h.low⟩
theorem TabsU.below {B : Nat} {w w' : World} (h : TabsU B w) (hb : Below w.heap.size w w') : TabsU B w' := ⟨h.tabs.below hb, h.low⟩
theorem form_tabs (s : ByteArray) (B : Nat) (w : World) (hs : s.size ≤ 268435456) (hT : TabsU B w) :
    Calls Tryd.prog 19 #[.string s] w fun r w' => r = .returned (.string (formS s)) ∧ Below w.heap.size w w' := form_any s w hs hT.tabs.1 hT.tabs.2.1 hT.tabs.2.2
set_option maxHeartbeats 8000000 in
theorem urEncode_any (n : Nat) (v : Value) (l : List En) (w : World) (hv : FilesV w v l) (hn : n ≤ 1000000) (hl : EnsOK n l) (hT : UrTabs w) :
    Calls Tryd.prog 9 #[v] w fun e w' => e = .returned (.string (urlS l)) ∧ Below w.heap.size w w' := by
  have ALB : Hid (Below w.heap.size w (w.alloc (.cells #[.pointer none, .slice none 0 0] 43))) := (Below.refl _ w).alloc (Nat.le_refl _) _
  have HP := hide (urPlainO_any n v l _ (hv.below ALB.out) (by omega) hl)
  have HBN := hide (HoldsK.new w)
  have TW := hide (((TabsU.of hT).under ALB.out))
  have szB : (w.alloc (.cells #[.pointer none, .slice none 0 0] 43)).heap.size = w.heap.size + 1 := by simp
  have PS := hide (plain_sizes hl)
  have PE := hide (plain_rest (l := l))
  have PN : Hid ((plainU l).length ≤ 200) := by show _ ≤ _; unfold plainU; rw [List.length_map]; exact hl.len
  have PT := hide (fun k => encT_len PS.out PN.out k)
  have EE : Hid (txt (encT (plainU l) (plainU l).length) = urlS l) := by show _ = _; unfold encT; rw [List.take_length]; rfl
  obtain ⟨pl, cl, rfl⟩ : ∃ p c, v = .slice p l.length c := by obtain ⟨p, c, e, _⟩ := hv; exact ⟨p, c, e⟩
  have p200 := PN.out
  have SZB := hide szB
  generalize plainU l = p at *
  generalize urlS l = RES at *
  clear hv hl PN hT szB
  go_enter Tryd.func9, Tryd.ntmps9
  go_wp2_with fail
  refine HP.out.mono ?_
  rintro e wp ⟨vp, rfl, op, bp⟩
  obtain ⟨q, cq, rfl⟩ := op.form
  have PF : Hid (OwnR (w.heap.size + 1) wp (.slice q p.length cq) p) := by show OwnR _ _ _ _; rw [← SZB.out]; exact op
  have h1 := HBN.out.below bp
  have BP := hide (ALB.out.trans (bp.mono ALB.out.size))
  have TP := hide (TW.out.below bp)
  clear op bp HP HBN TW ALB SZB
  go_wp2_with fail
  go_loopw [9] (fun iv wr => ∃ k : Nat, k ≤ p.length ∧ iv = .int .i64 k ∧ HoldsK w.heap.size w.heap.size (encT p k) wr ∧ Hid (Below w.heap.size w wr) ∧ Hid (OthK w.heap.size wp wr) ∧ Hid (TabsU w.heap.size wr)) (fun iv _ => p.length - (intOf iv).toNat)
  case atStart => exact ⟨0, Nat.zero_le _, rfl, h1, BP, OthK.refl _ _, TP⟩
  case round =>
    rename World => wr
    obtain ⟨k, hk, rfl, HB, BW, KW, TT⟩ := hrel
    clear BP TP h1
    by_cases g : k < p.length
    · have k1 : (k : Int) < (p.length : Int) := by omega
      have k0 : (0 : Int) ≤ (k : Int) := by omega
      obtain ⟨b, o, rfl, EA⟩ := (PF.out.oth KW.out (Nat.lt_succ_self _)).cellsAt k g
      have sz := PS.out _ (List.getElem_mem g)
      obtain ⟨pe1, pe2, pe3⟩ := PE.out _ (List.getElem_mem g)
      have L0 := PT.out k
      have s0 := formS_len p[k].name
      have s1 := formS_len p[k].val
      have H0 := hide (fun W => form_tabs p[k].name w.heap.size W (by omega))
      have H1 := hide (fun W => form_tabs p[k].val w.heap.size W (by omega))
      have a0 := EA.c0
      have a1 := EA.c1
      have a2 := EA.c2
      have a3 := EA.c3
      have a4 := EA.c4
      rw [pe1] at a2
      rw [pe2] at a3
      rw [pe3] at a4
      clear EA pe1 pe2 pe3
      by_cases kz : k = 0
      · have EX : Hid (encT p (k + 1) = (([] ++ (formS p[k].name).data.toList) ++ [(61 : UInt8)]) ++ (formS p[k].val).data.toList) := by
          show _ = _
          subst kz
          exact encT_first g
        have OE : encT p k = [] := by rw [kz]; rfl
        rw [OE] at HB
        have d0 : decide (0 < (k : Int)) = false := decide_eq_false (by omega)
        have d1 : ¬ 0 < k := by omega
        clear PS PT PF EE PE
        obtain ⟨sz0, sz1⟩ := sz
        clear L0 kz OE
        generalize formS p[k].name = f0 at *
        generalize formS p[k].val = f1 at *
        generalize p[k].name = t0 at *
        generalize p[k].val = t1 at *
        have sf0 : f0.size ≤ 6000000 := by omega
        have sf1 : f1.size ≤ 6000000 := by omega
        clear s0 s1 sz0 sz1
        have AL0 : Hid (Below wr.heap.size wr (wr.alloc (.cells #[.string t0, .string t1, .bool false, .string ⟨#[]⟩, .string ⟨#[]⟩] 34))) := (Below.refl _ wr).alloc (Nat.le_refl _) _
        have K1 := hide (Bk.new wr [.string t0, .string t1, .bool false, .string ⟨#[]⟩, .string ⟨#[]⟩] 34)
        have HB1 := hide (HB.below AL0.out)
        have TA := hide (TT.out.below AL0.out)
        have sw1 := Nat.le_trans BW.out.size AL0.out.size
        have BW1 := hide (BW.out.trans (AL0.out.mono BW.out.size))
        have KW1 := hide (KW.out.then AL0.out)
        have nb : wr.heap.size ≠ w.heap.size := by have := holdsK_lt HB; omega
        have tb := en_ty
        clear AL0 HB BW KW TT
        have hz := HB1.out
        have K2 := K1
        have TB := TA
        have sw := sw1
        have BW2 := BW1
        have KW2 := KW1
        clear K1 TA HB1 KW1 BW1 sw1
        have x0 := K2.out.cell 0 rfl
        go_wp2_with fail
        refine (H0.out _ TB.out).mono ?_
        rintro e w2 ⟨rfl, b2⟩
        have h2 := hz.below b2
        have m2 := Nat.le_trans sw b2.size
        have K3 := hide (K2.out.below b2)
        have T2 := hide (TB.out.below b2)
        have BW3 := hide (BW2.out.trans (b2.mono sw))
        have KW3 := hide (KW2.out.then b2)
        clear hz b2 K2 x0 H0 BW2 KW2 TB sw
        go_wp2_with fail
        refine (writeStringK w.heap.size w.heap.size [] f0 _ h2 (by simp only [List.length_nil]; omega) m2).mono ?_
        rintro e w3 ⟨rfl, h3, b3, k3⟩
        have K4 := hide (K3.out.oth k3 nb tb)
        have T3 := hide (T2.out.under b3)
        have m3 := Nat.le_trans m2 b3.size
        have BW4 := hide (BW3.out.trans b3)
        have KW4 := hide (KW3.out.trans k3)
        clear h2 b3 k3 K3 T2 m2 BW3 KW3
        go_wp2_with fail
        refine (writeByteK w.heap.size w.heap.size _ 61 _ h3 (by simp only [List.length_append, List.length_nil, Array.length_toList, ByteArray.size_data]; omega) m3).mono ?_
        rintro e w4 ⟨rfl, h4, b4, k4⟩
        have K5 := hide (K4.out.oth k4 nb tb)
        have T4 := hide (T3.out.under b4)
        have m4 := Nat.le_trans m3 b4.size
        have BW5 := hide (BW4.out.trans b4)
        have KW5 := hide (KW4.out.trans k4)
        have x1 := K5.out.cell 1 rfl
        clear h3 b4 k4 K4 T3 m3 BW4 KW4 K5
        go_wp2_with fail
        refine (H1.out _ T4.out).mono ?_
        rintro e w5 ⟨rfl, b5⟩
        have h5 := h4.below b5
        have m5 := Nat.le_trans m4 b5.size
        have T5 := hide (T4.out.below b5)
        have BW6 := hide (BW5.out.trans (b5.mono m4))
        have KW6 := hide (KW5.out.then b5)
        clear h4 b5 T4 x1 H1 BW5 KW5 m4
        go_wp2_with fail
        refine (writeStringK w.heap.size w.heap.size _ f1 _ h5 (by simp only [List.length_append, List.length_nil, List.length_cons, Array.length_toList, ByteArray.size_data]; omega) m5).mono ?_
        rintro e w6 ⟨rfl, h6, b6, k6⟩
        have T6 := hide (T5.out.under b6)
        have BW7 := hide (BW6.out.trans b6)
        have KW7 := hide (KW6.out.trans k6)
        rw [← EX.out] at h6
        clear h5 b6 k6 T5 BW6 KW6 m5
        go_wp2_with fail
        go_roundw
        case rel => exact ⟨k + 1, by omega, by go_num, h6, BW7, KW7, T6⟩
        case measure => simp [intOf]; omega
      · have EX : Hid (encT p (k + 1) = (((encT p k ++ [(38 : UInt8)]) ++ (formS p[k].name).data.toList) ++ [(61 : UInt8)]) ++ (formS p[k].val).data.toList) := encT_next g (by omega)
        have d0 : decide (0 < (k : Int)) = true := decide_eq_true (by omega)
        clear PS PT PF EE PE
        obtain ⟨sz0, sz1⟩ := sz
        generalize encT p k = C at *
        have LC : C.length ≤ 4000000000 := by omega
        generalize formS p[k].name = f0 at *
        generalize formS p[k].val = f1 at *
        generalize p[k].name = t0 at *
        generalize p[k].val = t1 at *
        have sf0 : f0.size ≤ 6000000 := by omega
        have sf1 : f1.size ≤ 6000000 := by omega
        clear s0 s1 sz0 sz1 L0
        have AL0 : Hid (Below wr.heap.size wr (wr.alloc (.cells #[.string t0, .string t1, .bool false, .string ⟨#[]⟩, .string ⟨#[]⟩] 34))) := (Below.refl _ wr).alloc (Nat.le_refl _) _
        have K1 := hide (Bk.new wr [.string t0, .string t1, .bool false, .string ⟨#[]⟩, .string ⟨#[]⟩] 34)
        have HB1 := hide (HB.below AL0.out)
        have TA := hide (TT.out.below AL0.out)
        have sw1 := Nat.le_trans BW.out.size AL0.out.size
        have BW1 := hide (BW.out.trans (AL0.out.mono BW.out.size))
        have KW1 := hide (KW.out.then AL0.out)
        have nb : wr.heap.size ≠ w.heap.size := by have := holdsK_lt HB; omega
        have tb := en_ty
        clear AL0 HB BW KW TT
        go_wp2_with fail
        refine (writeByteK w.heap.size w.heap.size C 38 _ HB1.out (by omega) sw1).mono ?_
        rintro e wz ⟨rfl, hz, bz, kz2⟩
        have K2 := hide (K1.out.oth kz2 nb tb)
        have TB := hide (TA.out.under bz)
        have sw := Nat.le_trans sw1 bz.size
        have BW2 := hide (BW1.out.trans bz)
        have KW2 := hide (KW1.out.trans kz2)
        clear K1 TA bz kz2 HB1 KW1 BW1 sw1
        have x0 := K2.out.cell 0 rfl
        go_wp2_with fail
        refine (H0.out _ TB.out).mono ?_
        rintro e w2 ⟨rfl, b2⟩
        have h2 := hz.below b2
        have m2 := Nat.le_trans sw b2.size
        have K3 := hide (K2.out.below b2)
        have T2 := hide (TB.out.below b2)
        have BW3 := hide (BW2.out.trans (b2.mono sw))
        have KW3 := hide (KW2.out.then b2)
        clear hz b2 K2 x0 H0 BW2 KW2 TB sw
        go_wp2_with fail
        refine (writeStringK w.heap.size w.heap.size (C ++ [38]) f0 _ h2 (by simp only [List.length_append, List.length_cons, List.length_nil]; omega) m2).mono ?_
        rintro e w3 ⟨rfl, h3, b3, k3⟩
        have K4 := hide (K3.out.oth k3 nb tb)
        have T3 := hide (T2.out.under b3)
        have m3 := Nat.le_trans m2 b3.size
        have BW4 := hide (BW3.out.trans b3)
        have KW4 := hide (KW3.out.trans k3)
        clear h2 b3 k3 K3 T2 m2 BW3 KW3
        go_wp2_with fail
        refine (writeByteK w.heap.size w.heap.size _ 61 _ h3 (by simp only [List.length_append, List.length_cons, List.length_nil, Array.length_toList, ByteArray.size_data]; omega) m3).mono ?_
        rintro e w4 ⟨rfl, h4, b4, k4⟩
        have K5 := hide (K4.out.oth k4 nb tb)
        have T4 := hide (T3.out.under b4)
        have m4 := Nat.le_trans m3 b4.size
        have BW5 := hide (BW4.out.trans b4)
        have KW5 := hide (KW4.out.trans k4)
        have x1 := K5.out.cell 1 rfl
        clear h3 b4 k4 K4 T3 m3 BW4 KW4 K5
        go_wp2_with fail
        refine (H1.out _ T4.out).mono ?_
        rintro e w5 ⟨rfl, b5⟩
        have h5 := h4.below b5
        have m5 := Nat.le_trans m4 b5.size
        have T5 := hide (T4.out.below b5)
        have BW6 := hide (BW5.out.trans (b5.mono m4))
        have KW6 := hide (KW5.out.then b5)
        clear h4 b5 T4 x1 H1 BW5 KW5 m4
        go_wp2_with fail
        refine (writeStringK w.heap.size w.heap.size _ f1 _ h5 (by simp only [List.length_append, List.length_cons, List.length_nil, Array.length_toList, ByteArray.size_data]; omega) m5).mono ?_
        rintro e w6 ⟨rfl, h6, b6, k6⟩
        have T6 := hide (T5.out.under b6)
        have BW7 := hide (BW6.out.trans b6)
        have KW7 := hide (KW6.out.trans k6)
        rw [← EX.out] at h6
        clear h5 b6 k6 T5 BW6 KW6 m5
        go_wp2_with fail
        go_roundw
        case rel => exact ⟨k + 1, by omega, by go_num, h6, BW7, KW7, T6⟩
        case measure => simp [intOf]; omega
    · obtain rfl : k = p.length := by omega
      clear PF PS PT PE
      go_wp2_with fail
      refine (builderTextK _ _ _ _ HB BW.out.size).mono ?_
      rintro e w2 ⟨rfl, h2, b2, _⟩
      have B2 := BW.out.trans b2
      rw [EE.out]
      clear EE
      go_wp2_with fail
      go_ret
      exact ⟨rfl, B2⟩

end Go.Proofs.YtmnpnpmopbkabaaDoor
