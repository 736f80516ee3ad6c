package meter

// bill returns the bill of a use.
func (t Tariff) bill(u Use) Bill {
	b := Bill{Amount: t.Base}
	for hour, value := range u.Values {
		b.Energy += value
		b.Amount += value * t.Price[hour%hoursOfDay]
	}
	// With 50 more, what is rounded down is rounded to the nearest, a half upwards.
	b.Credit = (b.Amount*t.percentage(u.Out) + 50) / 100
	b.Due = b.Amount - b.Credit
	return b
}

// percentage returns how much of the amount is given back if the service was not there for so many minutes.
func (t Tariff) percentage(out int) int {
	n := 0
	for _, x := range t.Tiers {
		if x.Minutes <= out {
			n = x.Percent
		}
	}
	return min(n, t.Credit)
}

// plus returns the sum of two bills.
func (b Bill) plus(c Bill) Bill {
	return Bill{b.Energy + c.Energy, b.Amount + c.Amount, b.Credit + c.Credit, b.Due + c.Due}
}
