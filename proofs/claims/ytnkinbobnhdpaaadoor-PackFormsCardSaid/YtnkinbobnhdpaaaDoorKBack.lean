/- what was packed is taken as it: pure -/
import Derived.Test.YtnkinbobnhdpaaaDoorKOpB
namespace Go.Proofs.YtnkinbobnhdpaaaDoor
open Go.RowKit Go.Lib

theorem rd_enc {n : Int} (h : Nb.okB n = true) (r : List UInt8) : rd (some (encI n ++ r)) = (n, some r) := by
  obtain ⟨h0, h1⟩ := Nb.okB_of h
  have hp := Nb.tk_put (n := n.toNat) (by omega) r
  unfold rd encI
  simp only [hp, Prod.mk.injEq, and_true]
  omega
theorem rdN_enc {n m : Int} (h : Nb.okB n = true) (hm : n ≤ m) (r : List UInt8) : rdN m (some (encI n ++ r)) = (n, some r) := by
  unfold rdN
  rw [rd_enc h r]
  simp only
  rw [if_neg (by omega)]
theorem rd3_enc {a b c : Int} (h : ∀ n ∈ [a, b, c], Nb.okB n = true) (r : List UInt8) : rd3 (some (encL [a, b, c] ++ r)) = ((a, b, c), some r) := by
  have e : encL [a, b, c] ++ r = encI a ++ (encI b ++ (encI c ++ r)) := by
    show (encI a ++ (encI b ++ (encI c ++ []))) ++ r = _
    simp only [List.append_nil, List.append_assoc]
  unfold rd3
  rw [e, rd_enc (h a (by simp)), rd_enc (h b (by simp)), rd_enc (h c (by simp))]
theorem rdE_enc {e : El} (h : e.okN = true) (r : List UInt8) : rdE (some (encL e.nums ++ r)) = (e, some r) := by
  have h3 := rd3_enc (a := e.s) (b := e.q) (c := e.i) (El.okN_all h) r
  have e2 : rdE (some (encL e.nums ++ r)) = (⟨(rd3 (some (encL e.nums ++ r))).1.1, (rd3 (some (encL e.nums ++ r))).1.2.1, (rd3 (some (encL e.nums ++ r))).1.2.2⟩, (rd3 (some (encL e.nums ++ r))).2) := rfl
  rw [e2]
  unfold El.nums
  rw [h3]
theorem rdT_enc {t : ByteArray} (h : t.size ≤ 268435456) (r : List UInt8) : rdT (some (txB t ++ r)) = (t, some r) := by
  have hl : t.data.toList.length = t.size := by simp
  have hp := Nb.tkText_put (l := t.data.toList) (by omega) r
  rw [hl] at hp
  unfold rdT txB
  simp only [hp]
theorem rdEs_enc (l : List El) (h : ∀ e ∈ l, e.okN = true) (r : List UInt8) : ∀ k, k ≤ l.length → rdEs k (some (elsB l ++ r)) = (l.take k, some (elsB (l.drop k) ++ r))
  | 0, _ => by simp [rdEs]
  | k + 1, hk => by
    have ih := rdEs_enc l h r k (by omega)
    have hd : l.drop k = l[k] :: l.drop (k + 1) := List.drop_eq_getElem_cons (by omega)
    have e : elsB (l.drop k) ++ r = encL l[k].nums ++ (elsB (l.drop (k + 1)) ++ r) := by
      rw [hd, show (l[k] :: l.drop (k + 1)) = [l[k]] ++ l.drop (k + 1) from rfl, elsB_append, elsB_one, List.append_assoc]
    show ((rdEs k (some (elsB l ++ r))).1 ++ [(rdE (rdEs k (some (elsB l ++ r))).2).1], (rdE (rdEs k (some (elsB l ++ r))).2).2) = _
    rw [ih]
    simp only
    rw [e, rdE_enc (h _ (List.getElem_mem (by omega))), List.take_succ_eq_append_getElem (by omega)]
theorem begin_eq {e : El} (h : e.begin = true) : e = ⟨0, 0, 0⟩ := by
  have : e.s = 0 ∧ e.q = 0 ∧ e.i = 0 := of_decide_eq_true h
  obtain ⟨s, q, i⟩ := e
  simp only at this
  obtain ⟨rfl, rfl, rfl⟩ := this
  rfl
theorem rdOp_enc {o : OpD} (h : okOp o = true) (r : List UInt8) : rdOp (some (opB o ++ r)) = (o, some r) := by
  have hk := okOp_nums h
  unfold okOp at h
  rw [Bool.and_eq_true] at h
  obtain ⟨_, h2⟩ := h
  rcases hk.kind with k1 | k1
  · rw [if_pos k1] at h2
    unfold okEdit OpD.head at h2
    simp only [Bool.and_eq_true, decide_eq_true_eq] at h2
    obtain ⟨⟨z1, z2, z3⟩, _⟩ := h2
    have hsz := hk.size
    have hgl := hk.len
    have hn : Nb.okB (o.gone.length : Int) = true := Nb.okB_yes (by omega) (by omega)
    have e0 : opB o ++ r = encL [o.site, o.seq, o.kind] ++ (encL o.after.nums ++ (txB o.text ++ (encI (o.gone.length : Int) ++ (elsB o.gone ++ r)))) := by
      rw [opB_1 k1]
      show _ = _
      simp only [List.append_assoc, encL, List.append_nil]
    have a1 := rd3_enc hk.head (encL o.after.nums ++ (txB o.text ++ (encI (o.gone.length : Int) ++ (elsB o.gone ++ r))))
    have a2 := rdE_enc (hk.aft k1) (txB o.text ++ (encI (o.gone.length : Int) ++ (elsB o.gone ++ r)))
    have a3 := rdT_enc (t := o.text) (by omega) (encI (o.gone.length : Int) ++ (elsB o.gone ++ r))
    have a4 := rdN_enc (m := 200) hn (by omega) (elsB o.gone ++ r)
    have a5 := rdEs_enc o.gone hk.gone r o.gone.length (Nat.le_refl _)
    rw [e0]
    unfold rdOp
    simp only [a1]
    rw [if_pos k1]
    simp only [a2, a3, a4, Int.toNat_natCast, a5, List.take_length, List.drop_length]
    obtain ⟨site, seq, kind, after, text, gone, of, num, gen⟩ := o
    simp only at z1 z2 z3
    subst z1 z2 z3
    rfl
  · rw [if_neg (by omega), if_pos k1] at h2
    unfold okToggle emptyB at h2
    simp only [Bool.and_eq_true, decide_eq_true_eq] at h2
    obtain ⟨z1, z2, z3, _⟩ := h2
    have a1 := rd3_enc hk.head (encL [o.of, o.num, o.gen] ++ r)
    have a2 := rd3_enc (hk.tog k1) r
    rw [opB_2 k1, List.append_assoc]
    unfold rdOp
    simp only [a1]
    rw [if_neg (by omega), if_pos k1]
    simp only [a2]
    have z4 := begin_eq z1
    have z5 := List.eq_nil_of_length_eq_zero z3
    obtain ⟨site, seq, kind, after, text, gone, of, num, gen⟩ := o
    simp only at z2 z4 z5
    subst z2 z4 z5
    rfl
theorem tkOp_enc {o : OpD} (h : okOp o = true) (r : List UInt8) : tkOp (some (opB o ++ r)) = some (o, r) := tkOp_some.2 ⟨rdOp_enc h r, h⟩
theorem rdOps_enc (l : List OpD) (h : l.all okOp = true) (r : List UInt8) : ∀ k, k ≤ l.length → rdOps k (some (opsB l ++ r)) = (l.take k, some (opsB (l.drop k) ++ r))
  | 0, _ => by simp [rdOps]
  | k + 1, hk => by
    have ih := rdOps_enc l h r k (by omega)
    have hd : l.drop k = l[k] :: l.drop (k + 1) := List.drop_eq_getElem_cons (by omega)
    have e : opsB (l.drop k) ++ r = opB l[k] ++ (opsB (l.drop (k + 1)) ++ r) := by
      rw [hd, show (l[k] :: l.drop (k + 1)) = [l[k]] ++ l.drop (k + 1) from rfl, opsB_append, opsB_one, List.append_assoc]
    have hok : okOp l[k] = true := by rw [List.all_eq_true] at h; exact h _ (List.getElem_mem (by omega))
    show ((rdOps k (some (opsB l ++ r))).1 ++ [(rdOp (rdOps k (some (opsB l ++ r))).2).1], (rdOp (rdOps k (some (opsB l ++ r))).2).2) = _
    rw [ih]
    simp only
    rw [e, rdOp_enc hok, List.take_succ_eq_append_getElem (by omega)]
theorem rdMs_enc {m : MsD} (hh : ∀ n ∈ m.head, Nb.okB n = true) (h4 : m.ops.length ≤ 4) (ho : m.ops.all okOp = true) (r : List UInt8) : rdMs (some (msB m ++ r)) = (m, some r) := by
  obtain ⟨kind, site, nonce, known, seq, err, ops⟩ := m
  simp only at h4 ho
  unfold MsD.head at hh
  have e0 : msB ⟨kind, site, nonce, known, seq, err, ops⟩ ++ r = encL [kind, site, nonce] ++ (encL [known, seq, err] ++ (encI (ops.length : Int) ++ (opsB ops ++ r))) := by
    unfold msB MsD.head
    simp only [List.append_assoc, encL, List.append_nil]
  have a1 := rd3_enc (a := kind) (b := site) (c := nonce) (fun n hn => hh n (by simp at hn ⊢; rcases hn with rfl | rfl | rfl <;> simp)) (encL [known, seq, err] ++ (encI (ops.length : Int) ++ (opsB ops ++ r)))
  have a2 := rd3_enc (a := known) (b := seq) (c := err) (fun n hn => hh n (by simp at hn ⊢; rcases hn with rfl | rfl | rfl <;> simp)) (encI (ops.length : Int) ++ (opsB ops ++ r))
  have a3 := rdN_enc (n := (ops.length : Int)) (m := 4) (hh _ (by simp)) (by omega) (opsB ops ++ r)
  have a4 := rdOps_enc ops ho r ops.length (Nat.le_refl _)
  rw [e0]
  unfold rdMs rd6
  simp only [a1, a2, a3, Int.toNat_natCast, a4, List.take_length, List.drop_length]
  rfl
theorem tkMs_enc {m : MsD} (hh : ∀ n ∈ m.head, Nb.okB n = true) (h : okMs m = true) : tkMs (msB m) = some m := by
  have h1 := okMs_ops h
  have h2 := rdMs_enc hh h1.1 h1.2 []
  rw [List.append_nil] at h2
  exact tkMs_some.2 ⟨h2, h⟩
theorem tkMs_more {m : MsD} (hh : ∀ n ∈ m.head, Nb.okB n = true) (h : okMs m = true) (x : UInt8) (r : List UInt8) : tkMs (msB m ++ x :: r) = none := by
  have h1 := okMs_ops h
  have h2 := rdMs_enc hh h1.1 h1.2 (x :: r)
  unfold tkMs
  rw [h2]
end Go.Proofs.YtnkinbobnhdpaaaDoor
