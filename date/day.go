package date

const (
	days4Years   = 4*365 + 1
	days400Years = 100*days4Years - 3
	// days1970 is how many days lie between the 1st of March, 400 years ahead of the year 0, and 1970:
	// from there on counted, nothing is below 0 where it is divided.
	days1970 = 865565
)

// lastDay is the last day of a month.
func lastDay(year, month int) int {
	switch month {
	case 2:
		if isLeap(year) {
			return 29
		}
		return 28
	case 4, 6, 9, 11:
		return 30
	}
	return 31
}

func isLeap(year int) bool {
	return year%4 == 0 && year%100 != 0 || year%400 == 0
}

// dayOf is how many days a day is behind the first one of 1970.
// It counts years that begin in March: so the day that not all have is the last one of its year, and moves no other.
func dayOf(year, month, day int) int {
	months := (month + 9) % 12
	years := year + 400
	if month < 3 {
		years--
	}
	return 365*years + years/4 - years/100 + years/400 + monthStart(months) + day - 1 - days1970
}

// dateOf is the way back.
func dateOf(n int) (year, month, day int) {
	quarters := 4*(n+days1970) + 3
	centuries, left := quarters/days400Years, quarters%days400Years/4
	quarters = 4*left + 3
	years, left := quarters/days4Years, quarters%days4Years/4
	months := (5*left + 2) / 153
	year = 100*centuries + years - 400
	if months > 9 {
		year++
	}
	return year, (months+2)%12 + 1, left - monthStart(months) + 1
}

// monthStart is how many days of a year that begins in March lie ahead of one of its months.
// Five of them, from March on or from August on, have 153 days.
func monthStart(months int) int {
	return (153*months + 2) / 5
}
