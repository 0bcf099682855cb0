/- Entries in a row of the call's own. The document's Encode, Split of layer 21. Stage 21's wakes and its laws PlainEncodes, PlainBodies, walked. -/
import Derived.Test.YtmnpnpmopbkabaaJpn11
import Derived.Test.YtmnpnpmopbkabaaJpn13
import Derived.Test.YtmnpnpmopbkabaaJpn14

namespace Go.Proofs.Ytmnpnpmopbkabaa
open Go.RowKit
set_option maxRecDepth 100000
theorem wpList_append_en0 {ops : Array Oper} {rest : List Oper} {o : Oper} {a : Act} {w : World} {Q : Exit → Act → World → Prop} (hgd : o.guard = none) (s x : Operand)
    (ho : o.op = .call { callee := .builtin .append, args := #[s, x], argTypes := #[22, 22] })
    (base : Nat) (v : Value) (hs : a.eval s = v) (hown : OwnR base w v []) (sv : Value) (gs : List En) (hx : a.eval x = sv) (hg : FilesV w sv gs)
    (hl : gs.length * 72 ≤ 140737488355328) (hbase : base ≤ w.heap.size)
    (h : ∀ q cp w', OwnR base w' (.slice q gs.length cp) gs → Below base w w' → wpList Try.prog ops Q rest (a.put o.dst (.slice q gs.length cp)) w') : wpList Try.prog ops Q (o :: rest) a w := by
  have e : ([] : List En).length + gs.length = gs.length := Nat.zero_add _
  refine wpList_append_en hgd s x ho base v [] hs hown sv gs hx hg (by rw [e]; exact hl) hbase ?_
  rw [e]
  exact h
end Go.Proofs.Ytmnpnpmopbkabaa

namespace Go.Proofs.Ytmnpnpmopbkabaa
open Go.RowKit
set_option maxRecDepth 100000
theorem wpList_append_two {P : Program} {t e st : TypeId} (bt : ByteTypes P t e st) {ops : Array Oper} {rest : List Oper} {o : Oper} {a : Act} {Q : Exit → Act → World → Prop} (w : World) (y z : Int)
    (hgd : o.guard = none) (s x : Operand) (ho : o.op = .call { callee := .builtin .append, args := #[s, x], argTypes := #[t, t] })
    (base : Nat) (v : Value) (l : List UInt8) (c d : UInt8) (hy : y = (c.toNat : Int)) (hz : z = (d.toNat : Int)) (hs : a.eval s = v) (hown : OwnsB e base w v l)
    (hx : a.eval x = .slice (some ⟨w.heap.size, 0, none⟩) 2 2) (hlen : l.length ≤ 70368744177664) (hbase : base ≤ w.heap.size)
    (h : ∀ v' w', OwnsB e base w' v' (l ++ [c, d]) → Below base w w' → wpList P ops Q rest (a.put o.dst v') w') : wpList P ops Q (o :: rest) a (w.alloc (.cells #[.int .u8 y, .int .u8 z] e)) := by
  subst hy hz
  obtain ⟨i, hi, hz0, hz1, hz2⟩ := info_parts bt.info
  have hown' : (w.alloc (.cells #[.int .u8 (c.toNat : Int), .int .u8 (d.toNat : Int)] e)).ownsRow base e 1 v l.length (l.map cellB) := World.ownsRow.alloc hown _
  refine wpList_append_own (P := P) _ hgd s x t ho base e i (.int .u8 0) 1 1 bt.sl hi hz0 hz1 hz2 rfl (by decide) v l.length (l.map cellB) hs hown' ⟨w.heap.size, 0, none⟩ 2 2 [cellB c, cellB d] hx rfl (cell_two_new _ _ _ _) (fun u hu => by simp at hu; rcases hu with rfl | rfl <;> rfl) (by unfold maxLen; omega) (by omega) (by simp; omega) ?_
  intro v' w' h1 h2 _
  refine h v' w' ?_ (((Below.refl base w).alloc hbase _).trans (grown_below hown' h2 (by simp; omega)))
  simpa [OwnsB] using h1
set_option maxHeartbeats 8000000 in
theorem refEncode21_any (n : Nat) (v : Value) (l : List En) (w : World) (hv : FilesV w v l) (hn : n ≤ 1000000) (hl : EnsOK n l) :
    Calls Try.prog 9 #[v] w fun e w' => e = .returned (.string (txt (encN l))) ∧ Below w.heap.size w w' := by
  have HP := hide (refPlain19_any n v l w hv (by omega) hl)
  have PS := hide (plain_sizesN hl)
  have PN : Hid ((plainU l).length ≤ 200) := by show _ ≤ _; unfold plainU; rw [List.length_map]; exact hl.len
  have PT := hide (fun k => enN_len PS.out PN.out k)
  have EE : Hid (txt (enN (plainU l) (plainU l).length) = txt (encN l)) := by show _ = _; unfold enN; rw [List.take_length]; rfl
  obtain ⟨pl, cl, rfl⟩ : ∃ p c, v = .slice p l.length c := by obtain ⟨p, c, e, _⟩ := hv; exact ⟨p, c, e⟩
  have p200 := PN.out
  generalize plainU l = p at *
  generalize txt (encN l) = RES at *
  clear hv hl PN
  go_enter Try.func9, Try.ntmps9
  go_wp2_with fail
  refine HP.out.mono ?_
  rintro e wp ⟨vp, rfl, op, bp⟩
  have PF := hide op.files
  obtain ⟨q, cq, rfl⟩ := op.form
  have BP := hide bp
  clear op bp HP
  go_wp2_with fail
  go_loopw [3, 5] (fun ov iv wr => ∃ k : Nat, k ≤ p.length ∧ iv = .int .i64 k ∧ OwnsB 5 wp.heap.size wr ov (enN p k) ∧ Hid (Below wp.heap.size wp wr)) (fun _ iv _ => p.length - (intOf iv).toNat)
  case atStart => exact ⟨0, Nat.zero_le _, rfl, OwnsB.nil _ _ _, Below.refl _ _⟩
  case round =>
    rename World => wr
    obtain ⟨k, hk, rfl, OW, BW⟩ := hrel
    by_cases g : k < p.length
    · have k1 : (k : Int) < (p.length : Int) := by omega
      have k0 : (0 : Int) ≤ (k : Int) := by omega
      obtain ⟨q', c', eq, hq⟩ := PF.out
      cases eq
      obtain ⟨b, o, rfl, hc⟩ : ∃ b o, q = some ⟨b, o, none⟩ ∧ ∀ i (h : i < p.length), EnAt wp b (o + i * 5) p[i] := by
        rcases hq with t | t
        · rw [t] at g; simp at g
        · exact t
      have EA := hide (hc k g)
      have sz := PS.out _ (List.getElem_mem g)
      have L0 := PT.out k
      have EX := hide (enN_next g)
      have sw := BW.out.size
      obtain ⟨sz0, sz1⟩ := sz
      clear hc hq PS PT PF EE
      generalize enN p k = C at *
      generalize p[k] = ek at *
      have a0 := (EA.out.below BW.out).c0
      go_wp2_with (first
        | (at_builtin; refine wpList_append_text byteTypesE wr rfl _ _ rfl wp.heap.size _ C ek.name rfl OW rfl (by omega) (by omega) ?_; intro v2 w2 o2 b2; have W2 : Hid (Below wp.heap.size wp w2) := BW.out.trans b2; have m2 := W2.out.size)
        | (at_builtin; refine wpList_append_byte byteTypesE w2 _ rfl _ _ rfl wp.heap.size _ (C ++ bL ek.name) (61 : UInt8) rfl rfl o2 rfl (by simp only [List.length_append, len_bL]; omega) (by omega) ?_; intro v3 w3 o3 b3; have W3 : Hid (Below wp.heap.size wp w3) := W2.out.trans b3; have m3 := W3.out.size; have a1 := (EA.out.below W3.out).c1)
        | (at_builtin; refine wpList_append_text byteTypesE w3 rfl _ _ rfl wp.heap.size _ ((C ++ bL ek.name) ++ [61]) ek.val rfl o3 rfl (by simp only [List.length_append, List.length_cons, List.length_nil, len_bL]; omega) (by omega) ?_; intro v4 w4 o4 b4; have W4 : Hid (Below wp.heap.size wp w4) := W3.out.trans b4; have m4 := W4.out.size)
        | (at_builtin; refine wpList_append_two byteTypesE w4 _ _ rfl _ _ rfl wp.heap.size _ (((C ++ bL ek.name) ++ [61]) ++ bL ek.val) (13 : UInt8) (10 : UInt8) rfl rfl rfl o4 rfl (by simp only [List.length_append, List.length_cons, List.length_nil, len_bL]; omega) (by omega) ?_; intro v5 w5 o5 b5))
      have W5 : Hid (Below wp.heap.size wp w5) := W4.out.trans b5
      rw [← EX.out] at o5
      go_roundw
      case rel => exact ⟨k + 1, by omega, by go_num, o5, W5⟩
      case measure => simp [intOf]; omega
    · obtain rfl : k = p.length := by omega
      have hend := OW.text byteTypesE
      rw [EE.out] at hend
      clear PF PS PT EE
      go_wp2_with fail
      go_ret
      exact ⟨rfl, chain BP.out BW.out⟩
end Go.Proofs.Ytmnpnpmopbkabaa

namespace Go.Proofs.Ytmnpnpmopbkabaa
open Go.RowKit
set_option maxRecDepth 100000
/-- An operation whose guard says yes is walked as if it had none. -/
theorem wpList_unguard {P : Program} {ops : Array Oper} {rest : List Oper} {o : Oper} {a : Act} {w : World} {Q : Exit → Act → World → Prop} (hw : Region.wanted o (yielded ops a.tmps) = true)
    (h : wpList P ops Q ({ o with guard := none } :: rest) a w) : wpList P ops Q (o :: rest) a w := by
  unfold wpList at h ⊢
  rw [if_pos hw]
  rw [if_pos (by simp [Region.wanted])] at h
  exact h
set_option maxHeartbeats 8000000 in
theorem plainEncodes_walk (v : Value) (l : List En) (w : World) (hv : FilesV w v l) (hf : l.length ≤ 4398046511104) (hT : PlTabs w) :
    Calls Try.prog 3 #[v] w fun e w' => e = .returned (.bool true) ∧ Below w.heap.size w w' := by
  have FV := hide hv
  have HW := hide (plWakes_any w hT)
  have HLg := hide (fun W (hb : Below w.heap.size w W) => refLong_any v l W (FV.out.below hb) hf)
  cases lg : longU l with
  | true =>
    rw [lg] at HLg
    obtain ⟨p, c, rfl⟩ := files_formP hv
    clear hv hf hT lg FV
    go_enter Try.func3, Try.ntmps3
    go_wp2_with fail
    refine HW.out.mono ?_
    rintro e w1 ⟨rfl, b1⟩
    go_wp2_with fail
    refine (HLg.out _ b1).mono ?_
    rintro e w2 ⟨rfl, hu⟩
    obtain rfl : w1 = w2 := hu.symm
    go_wp2_with fail
    go_ret
    exact ⟨rfl, b1⟩
  | false =>
    obtain ⟨l60, hok⟩ := long_ok lg
    rw [lg] at HLg
    have HEn := hide (fun u W (hb' : Below w.heap.size w W) (hu : FilesV W u l) => plEncode_any 2000 u l W hu (by omega) hok (hT.below hb'))
    have HRe := hide (fun W (hb' : Below w.heap.size w W) => refEncode21_any 2000 v l W (FV.out.below hb') (by omega) hok)
    have BQ := hide (beq_txtN (txt (encN l)))
    obtain ⟨p, c, rfl⟩ := files_formP hv
    clear hv hf hT lg hok
    generalize txt (encN l) = et at *
    go_enter Try.func3, Try.ntmps3
    go_wp2_with fail
    refine HW.out.mono ?_
    rintro e w1 ⟨rfl, b1⟩
    go_wp2_with fail
    refine (HLg.out _ b1).mono ?_
    rintro e w2 ⟨rfl, hu⟩
    obtain rfl : w1 = w2 := hu.symm
    have OE := hide (OwnR.empty w1.heap.size w1 (Nat.le_refl _))
    have A1 : Hid (Below w1.heap.size w1 (w1.alloc (.cells #[] 32))) := (Below.refl _ w1).alloc (Nat.le_refl _) _
    have FA := hide ((FV.out.below b1).below A1.out)
    have SA := hide A1.out.size
    go_wp2_with (at_builtin; refine wpList_unguard (by rfl) ?_; refine wpList_append_en0 rfl _ _ rfl w1.heap.size _ rfl OE.out _ l rfl FA.out (by omega) SA.out ?_; intro q2 c2 w2 o2 b2)
    have B2 : Hid (Below w.heap.size w w2) := b1.trans ((A1.out.trans b2).mono b1.size)
    have F2 := hide o2.files
    clear OE A1 FA SA o2 b2 b1
    refine (HEn.out _ _ B2.out F2.out).mono ?_
    rintro e w3 ⟨rfl, b3⟩
    have B3 := hide (chain B2.out b3)
    clear b3 B2 F2
    go_wp2_with fail
    refine (HRe.out _ B3.out).mono ?_
    rintro e w4 ⟨rfl, b4⟩
    have B4 := hide (chain B3.out b4)
    clear b4 B3
    have q1 := BQ.out
    go_wp2_with fail
    go_ret
    exact ⟨rfl, B4.out⟩

end Go.Proofs.Ytmnpnpmopbkabaa
