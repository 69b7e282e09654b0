package coin

import "bateria/api"

// Draw returns the ticket that wins, and its holder.
func Draw(tickets, secrets []int) (ticket, holder int, e api.Errno) {
	if e := checkRaffle(tickets, secrets); e != api.OK {
		return 0, 0, e
	}
	ticket = total(secrets) % total(tickets)
	return ticket, holderOf(tickets, ticket), api.OK
}

func checkRaffle(tickets, secrets []int) api.Errno {
	if len(tickets) > api.MaxHolders {
		return api.ErrFull
	}
	for _, many := range tickets {
		if !within(many, 0, api.MaxTickets) {
			return api.ErrRange
		}
	}
	if len(secrets) != len(tickets) {
		return api.ErrForm
	}
	for _, secret := range secrets {
		if !within(secret, 0, api.MaxSecret) {
			return api.ErrRange
		}
	}
	if total(tickets) == 0 {
		return api.ErrShort
	}
	return api.OK
}

// holderOf is the holder of a ticket that there is.
func holderOf(tickets []int, ticket int) int {
	holder := 0
	for ticket >= tickets[holder] {
		ticket -= tickets[holder]
		holder++
	}
	return holder
}
