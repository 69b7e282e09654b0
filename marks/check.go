package marks

import "bateria/api"

// Check returns the first error of a scale.
func Check(s api.Scale) api.Errno {
	switch {
	case !within(s.Schools, 1, api.MaxSchools) || !within(s.Matters, 1, api.MaxMatters) || !within(s.Judges, 1, api.MaxJudges):
		return api.ErrRange
	case !within(s.Drop, 0, s.Judges-1) || !within(s.Low, 0, api.MaxMark) || !within(s.High, 0, api.MaxMark):
		return api.ErrRange
	case s.Low > s.High:
		return api.ErrOrder
	case len(s.Order) != s.Matters:
		return api.ErrForm
	}
	return checkOrder(s)
}

// Seal returns the seal of an envelope.
func Seal(s api.Scale, matter, judge int, marks []int) (int, api.Errno) {
	if e := Check(s); e != api.OK {
		return 0, e
	}
	return seal(s, matter, judge, marks)
}

// CheckNight returns the first error of a scale, then that of what is known of a night.
func CheckNight(s api.Scale, n api.Night) api.Errno {
	_, e := learn(s, n)
	return e
}

func checkOrder(s api.Scale) api.Errno {
	before := map[int]bool{}
	for _, matter := range s.Order {
		switch {
		case !isNumber(matter, s.Matters):
			return api.ErrMissing
		case before[matter]:
			return api.ErrExists
		}
		before[matter] = true
	}
	return api.OK
}

// checkSeat returns the error of the numbers of a matter and a judge.
func checkSeat(s api.Scale, matter, judge int) api.Errno {
	if !isNumber(matter, s.Matters) || !isNumber(judge, s.Judges) {
		return api.ErrMissing
	}
	return api.OK
}

// seal returns the error of what is in an envelope for a valid scale; otherwise its seal.
func seal(s api.Scale, matter, judge int, marks []int) (int, api.Errno) {
	if e := checkSeat(s, matter, judge); e != api.OK {
		return 0, e
	}
	if len(marks) != s.Schools {
		return 0, api.ErrForm
	}
	sum := (matter+1)*api.SealMatter + (judge+1)*api.SealJudge
	for school, mark := range marks {
		if !within(mark, s.Low, s.High) {
			return 0, api.ErrRange
		}
		sum += (school + 1) * mark
	}
	return sum % api.SealPrime, api.OK
}

// learn returns the first error of a scale and a night; otherwise what is known of the night.
func learn(s api.Scale, n api.Night) (known, api.Errno) {
	if e := Check(s); e != api.OK {
		return known{}, e
	}
	k := known{scale: s, opened: map[seat]card{}, absent: map[seat]bool{}}
	if e := k.learnOpened(n.Opened); e != api.OK {
		return known{}, e
	}
	if e := k.learnAbsent(n.Absent); e != api.OK {
		return known{}, e
	}
	if e := k.learnFines(n.Fines); e != api.OK {
		return known{}, e
	}
	return k, api.OK
}

func (k *known) learnOpened(opened []api.Envelope) api.Errno {
	if len(opened) > api.MaxOpened {
		return api.ErrFull
	}
	for _, x := range opened {
		if e := k.learnEnvelope(x); e != api.OK {
			return e
		}
	}
	return api.OK
}

func (k *known) learnEnvelope(x api.Envelope) api.Errno {
	number, e := seal(k.scale, x.Matter, x.Judge, x.Marks)
	switch {
	case e != api.OK:
		return e
	case x.Seal != number:
		return api.ErrSealed
	}
	who, marks := seat{x.Matter, x.Judge}, card{}
	copy(marks[:], x.Marks)
	if before, ok := k.opened[who]; ok && before != marks {
		return api.ErrClash
	}
	k.opened[who] = marks
	return api.OK
}

func (k *known) learnAbsent(absent []api.Absence) api.Errno {
	if len(absent) > api.MaxOpened {
		return api.ErrFull
	}
	for _, x := range absent {
		if e := checkSeat(k.scale, x.Matter, x.Judge); e != api.OK {
			return e
		}
		who := seat{x.Matter, x.Judge}
		if _, ok := k.opened[who]; ok {
			return api.ErrClash
		}
		k.absent[who] = true
	}
	return k.checkPresent()
}

// checkPresent returns an error if nobody judges a matter, since there is no mean then.
func (k *known) checkPresent() api.Errno {
	for matter := range k.scale.Matters {
		present := 0
		for judge := range k.scale.Judges {
			if !k.absent[seat{matter, judge}] {
				present++
			}
		}
		if present == 0 {
			return api.ErrShort
		}
	}
	return api.OK
}

func (k *known) learnFines(fines []api.Fine) api.Errno {
	if len(fines) > api.MaxFines {
		return api.ErrFull
	}
	for _, x := range fines {
		switch {
		case !isNumber(x.School, k.scale.Schools):
			return api.ErrMissing
		case !within(x.Points, 0, api.MaxFine):
			return api.ErrRange
		}
		k.fines[x.School] += x.Points
	}
	return api.OK
}

// isNumber says whether a number is that of one of so many things.
func isNumber(n, many int) bool { return within(n, 0, many-1) }

func within(n, least, most int) bool { return n >= least && n <= most }
